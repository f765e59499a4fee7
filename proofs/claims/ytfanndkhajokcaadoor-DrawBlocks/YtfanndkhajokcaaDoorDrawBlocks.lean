/- DrawBlocks returns true for every seed and every number. -/
import Derived.Test.YtfanndkhajokcaaDoorDrawC
import Derived.Test.YtfanndkhajokcaaDoorMNew
import Derived.Test.YtfanndkhajokcaaDoorHEq
import Derived.Test.YtfanndkhajokcaaDoorHLaid
namespace Go.Proofs.YtfanndkhajokcaaDoor
open Go.RowKit
open Go.ChangeShapes Go.WideShapes Go.ChangeAt
set_option linter.unusedSimpArgs false
set_option maxRecDepth 20000 in
set_option maxHeartbeats 4000000 in
theorem drawBlocks_of {Src : World → Nat → (Nat → Prop) → List Nat → Nat → Prop} (C : SrcC Src) (v0 : Value) (seed : List Nat) (ls : lowB seed) (zs : seed.length ≤ 140737488351232) (i : Int) (w : World) (h0 : By w v0 seed) (hK : KTab w) :
    Calls Tryd.prog 7 #[v0, .int .i64 i] w fun e w' => e = .returned (.bool true) ∧ Below w.heap.size w w' := by
  by_cases c1 : i < 0
  · have c1b := decide_eq_true c1
    clear h0 hK ls zs
    go_enter Tryd.func7, Tryd.ntmps7
    go_wp2_with fail
    go_ret
    exact ⟨rfl, Below.refl _ _⟩
  · have c1b := decide_eq_false c1
    by_cases c2 : 100 < i
    · have c2b := decide_eq_true c2
      clear h0 hK ls zs
      go_enter Tryd.func7, Tryd.ntmps7
      go_wp2_with fail
      go_ret
      exact ⟨rfl, Below.refl _ _⟩
    · have c2b := decide_eq_false c2
      obtain ⟨k, rfl⟩ := Int.eq_ofNat_of_zero_le (show 0 ≤ i by omega)
      have k100 : k ≤ 100 := by omega
      have NW : Hid _ := C.new seed ls (by omega) v0 w h0 hK
      have KU : Hid (∀ w', Below w.heap.size w w' → KTab w') := fun w' hb => hK.up hb hK.pos
      have K0 : Hid (0 < w.heap.size) := hK.pos
      have MS : Hid _ := fun v1 => marks_fun seed [0, 0, 0, 0, 0, 0, 0, k] ls (by omega) (by simp; omega) (by simp) v0 v1
      have BE : Hid (markS seed [0, 0, 0, 0, 0, 0, 0, k] = blkS seed k) := by rw [blkS, be8_small k (by omega)]; exact rfl
      rw [BE.out] at MS
      have DB : Hid _ := drawS_block seed k (by omega)
      have BL : Hid _ := blkS_length seed k
      have BLo : Hid _ := blkS_low seed k
      have SC : Hid (SrcC Src) := C
      have H0 : Hid (By w v0 seed) := h0
      have K100 : Hid (k ≤ 100) := k100
      have EQ : Hid _ := fun u v => equal_fun u v (blkS seed k) (blkS seed k) (blkS_low seed k) (blkS_low seed k)
      have IB : Hid _ := info_d32.trans (congrArg some (show 32 = ((blkS seed k).map b8).length by rw [List.length_map, blkS_length]))
      have SD : Hid (∀ g W, _) := fun g W => slice_all u_d32 info_u8 (by decide) g 0 W
      have w32 : IntKind.i64.wrap (32 * (k : Int)) = ((32 * k : Nat) : Int) := by rw [IntKind.wrap_i64]; omega
      have wk : IntKind.u8.wrap (k : Int) = (k : Int) := by simp [IntKind.wrap, IntKind.bits, IntKind.signed]; omega
      clear h0 hK ls zs C k100
      generalize blkS seed k = bk at *
      go_enter Tryd.func7, Tryd.ntmps7
      go_wp2_with fail
      refine Calls.mono NW.out ?_
      rintro e w1 ⟨⟨g, F, rfl, hg, _, s1⟩, hb1⟩
      have S1 : Hid (Src w1 g F seed 0) := s1
      have D1 : Hid (Below w.heap.size w w1) := hb1
      have HG : Hid (w.heap.size ≤ g) := hg
      have SK : Hid _ := SC.out.skip (32 * k) (by have := K100.out; omega) w1 s1 (Nat.lt_of_lt_of_le K0.out hg)
      have e32 : ((32 * k : Nat) : Int) = 32 * (k : Int) := by omega
      rw [e32] at SK
      clear s1 hb1 hg NW e32
      go_wp2_with fail
      refine Calls.mono SK.out ?_
      rintro e w2 ⟨rfl, s2, fr2⟩
      have D2 : Hid (Below w.heap.size w w2) := D1.out.trans (fr2.below D1.out.size HG.out)
      have BY : Hid _ := SC.out.bytes 32 (by decide) w2 s2 (KU.out _ D2.out) (Nat.lt_of_lt_of_le K0.out HG.out)
      have e0 : (0 + 32 * k) % 18446744073709551616 = 32 * k := by have := K100.out; omega
      rw [e0, DB.out] at BY
      have D1' : Hid (w1.heap.size ≤ w2.heap.size) := fr2.size
      clear s2 fr2 SK D1 S1 e0
      go_wp2_with fail
      refine Calls.mono BY.out ?_
      rintro e w3 ⟨⟨v3, rfl, ob3⟩, _, fr3⟩
      have D3 : Hid (Below w.heap.size w w3) := D2.out.trans (fr3.below D2.out.size HG.out)
      have B3 : Hid (By w3 v3 bk) := ob3.by
      clear fr3 ob3 BY D2
      obtain ⟨z0, z1⟩ := al1 w3 #[Value.int IntKind.u8 0, Value.int IntKind.u8 0, Value.int IntKind.u8 0, Value.int IntKind.u8 0, Value.int IntKind.u8 0, Value.int IntKind.u8 0, Value.int IntKind.u8 0, Value.int IntKind.u8 (k : Int)] 5
      have Z0 : Hid (By _ (.slice (some ⟨w3.heap.size, 0, none⟩) 8 8) [0, 0, 0, 0, 0, 0, 0, k]) := By.of_blk (xs := [0, 0, 0, 0, 0, 0, 0, k]) z0 rfl
      have Z1 : Hid (Below _ _ _) := z1
      clear z0 z1
      go_wp2_with fail
      generalize w3.alloc (Obj.cells #[Value.int IntKind.u8 0, Value.int IntKind.u8 0, Value.int IntKind.u8 0, Value.int IntKind.u8 0, Value.int IntKind.u8 0, Value.int IntKind.u8 0, Value.int IntKind.u8 0, Value.int IntKind.u8 (k : Int)] 5) = w4 at *
      have D4 : Hid (Below w.heap.size w w4) := D3.out.trans (Z1.out.mono D3.out.size)
      have B4 : Hid (By w4 v3 bk) := B3.out.up Z1.out (Nat.le_refl _)
      clear Z1 D3 B3
      refine (MS.out _ w4 (H0.out.up D4.out (Nat.le_refl _)) Z0.out (KU.out _ D4.out)).mono ?_
      rintro e w5 ⟨rfl, hb5⟩
      have D5 : Hid (Below w.heap.size w w5) := D4.out.trans (hb5.mono D4.out.size)
      have B5 : Hid (By w5 v3 bk) := B4.out.up hb5 (Nat.le_refl _)
      clear hb5 D4 B4 Z0 MS
      have T1 : Hid (∀ C t, C.size = 32 → World.there (w5.alloc (.cells C t)) w5.heap.size 0 (bk.map b8).length) := fun C t hC => (al1 w5 C t).1.there (by rw [List.length_map, BL.out, Array.length_toList, hC]; omega)
      go_wp2_with (refine wp_store_eq rfl 47 (.tmp 8) (.tmp 31) rfl w5.heap.size 0 (bk.map b8) rfl rfl (T1.out _ _ rfl) IB.out (one_b8 _) ?_)
      intro w6 hw6
      obtain ⟨b6, h6⟩ : Blk w6 w5.heap.size (bk.map b8) ∧ Below w5.heap.size w5 w6 := by
        rw [hw6.out]
        exact alst w5 _ _ _ (by rw [List.length_map, BL.out]; rfl)
      have E6 : Hid (By w6 (.slice (some ⟨w5.heap.size, 0, none⟩) 32 32) bk) := By.of_blk b6 BL.out
      have D6 : Hid (Below w.heap.size w w6) := D5.out.trans (h6.mono D5.out.size)
      have B6 : Hid (By w6 v3 bk) := B5.out.up h6 (Nat.le_refl _)
      clear hw6 b6 h6 D5 B5 T1
      generalize w5.heap.size = g5 at *
      go_wp2_with fail
      refine (EQ.out _ _ w6 B6.out E6.out).mono ?_
      rintro e w7 ⟨rfl, hb7⟩
      have D7 : Hid (Below w.heap.size w w7) := D6.out.trans (hb7.mono D6.out.size)
      clear hb7 EQ
      go_wp2_with fail
      go_ret
      exact ⟨by simp, D7.out⟩
end Go.Proofs.YtfanndkhajokcaaDoor
