/- DrawKeys returns true for every seed and every number. -/
import Derived.Test.YtfanndkhajokcaaDoorDrawC
import Derived.Test.YtfanndkhajokcaaDoorHEq
import Derived.Test.YtfanndkhajokcaaDoorHLaid
namespace Go.Proofs.YtfanndkhajokcaaDoor
open Go.RowKit
open Go.ChangeShapes Go.WideShapes Go.ChangeAt
set_option linter.unusedSimpArgs false
theorem fit_digest {key : List Nat} (h : 64 < key.length) : fitS (sumS key) = fitS key := by
  unfold fitS
  rw [if_pos h, if_neg (by rw [sumS_length]; decide), sumS_length]
theorem draw_digest {key : List Nat} (h : 64 < key.length) (p n : Nat) : drawS (sumS key) p n = drawS key p n := by
  have e : ∀ k, blkS (sumS key) k = blkS key k := fun k => by unfold blkS markS; rw [fit_digest h]
  unfold drawS byteS
  simp only [e]
set_option maxRecDepth 20000 in
set_option maxHeartbeats 4000000 in
theorem drawKeys_of {Src : World → Nat → (Nat → Prop) → List Nat → Nat → Prop} (C : SrcC Src) (v0 : Value) (seed : List Nat) (ls : lowB seed) (zs : seed.length ≤ 140737488351232) (i : Int) (w : World) (h0 : By w v0 seed) (hK : KTab w) :
    Calls Tryd.prog 6 #[v0, .int .i64 i] w fun e w' => e = .returned (.bool true) ∧ Below w.heap.size w w' := by
  by_cases c1 : i < 0
  · have c1b := decide_eq_true c1
    have SC : Hid (SrcC Src) := C
    have NW : Hid _ := C.new seed ls (by omega) v0 w h0 hK
    clear h0 hK ls zs C
    go_enter Tryd.func6, Tryd.ntmps6
    go_wp2_with fail
    refine Calls.mono NW.out ?_
    rintro e w1 ⟨⟨g, F, rfl, hg, _, s1⟩, hb1⟩
    have S1 : Hid (Src w1 g F seed 0) := s1
    have D1 : Hid (Below w.heap.size w w1) := hb1
    have BB : Hid _ := SC.out.bytesNeg i c1 w1 s1
    clear s1 hb1 hg NW
    go_wp2_with fail
    refine Calls.mono BB.out ?_
    rintro e w2 ⟨⟨v2, rfl, by2⟩, hb2⟩
    obtain ⟨a2, c2, rfl⟩ := by2.len
    have S2 : Hid (Src w2 g F seed 0) := SC.out.up S1.out hb2
    have D2 : Hid (Below w.heap.size w w2) := D1.out.trans (hb2.mono D1.out.size)
    have PL : Hid _ := SC.out.place w2 S2.out
    clear by2 hb2 BB S1 D1
    simp only [List.length_nil]
    go_wp2_with fail
    refine Calls.mono PL.out ?_
    rintro e w3 ⟨rfl, hb3⟩
    have D3 : Hid (Below w.heap.size w w3) := D2.out.trans (hb3.mono D2.out.size)
    clear hb3
    go_wp2_with fail
    go_ret
    exact ⟨rfl, D3.out⟩
  · have c1b := decide_eq_false c1
    by_cases c2 : 4096 < i
    · have c2b := decide_eq_true c2
      have SC : Hid (SrcC Src) := C
      have NW : Hid _ := C.new seed ls (by omega) v0 w h0 hK
      clear h0 hK ls zs C
      go_enter Tryd.func6, Tryd.ntmps6
      go_wp2_with fail
      refine Calls.mono NW.out ?_
      rintro e w1 ⟨⟨g, F, rfl, hg, _, s1⟩, hb1⟩
      have S1 : Hid (Src w1 g F seed 0) := s1
      have D1 : Hid (Below w.heap.size w w1) := hb1
      have BB : Hid _ := SC.out.bytesLarge i c2 w1 s1
      clear s1 hb1 hg NW
      go_wp2_with fail
      refine Calls.mono BB.out ?_
      rintro e w2 ⟨⟨v2, rfl, by2⟩, hb2⟩
      obtain ⟨a2, c2, rfl⟩ := by2.len
      have S2 : Hid (Src w2 g F seed 0) := SC.out.up S1.out hb2
      have D2 : Hid (Below w.heap.size w w2) := D1.out.trans (hb2.mono D1.out.size)
      have PL : Hid _ := SC.out.place w2 S2.out
      clear by2 hb2 BB S1 D1
      simp only [List.length_nil]
      go_wp2_with fail
      refine Calls.mono PL.out ?_
      rintro e w3 ⟨rfl, hb3⟩
      have D3 : Hid (Below w.heap.size w w3) := D2.out.trans (hb3.mono D2.out.size)
      clear hb3
      go_wp2_with fail
      go_ret
      exact ⟨rfl, D3.out⟩
    · have c2b := decide_eq_false c2
      obtain ⟨n, rfl⟩ := Int.eq_ofNat_of_zero_le (show 0 ≤ i by omega)
      have n4 : n ≤ 4096 := by omega
      have SC : Hid (SrcC Src) := C
      have NW : Hid _ := C.new seed ls (by omega) v0 w h0 hK
      have KU : Hid (∀ w', Below w.heap.size w w' → KTab w') := fun w' hb => hK.up hb hK.pos
      have K0 : Hid (0 < w.heap.size) := hK.pos
      have H0 : Hid (By w v0 seed) := h0
      have DL : Hid _ := drawS_length seed 0 n
      have HS : Hid _ := hsum_fun seed ls (by omega) v0
      have SL : Hid _ := sumS_length seed
      have IS : Hid _ := info_d32.trans (congrArg some (show 32 = ((sumS seed).map b8).length by rw [List.length_map, sumS_length]))
      have NS : Hid _ := fun v => C.new (sumS seed) (sumS_low _) (by rw [sumS_length]; decide) v
      have EQ : Hid _ := fun u v => equal_fun u v (drawS seed 0 n) (drawS seed 0 n) (drawS_low seed 0 n) (drawS_low seed 0 n)
      have DD : Hid (64 < seed.length → drawS (sumS seed) 0 n = drawS seed 0 n) := fun h => draw_digest h 0 n
      obtain ⟨a0, c0, e0⟩ := h0.len
      subst e0
      have N4 : Hid (n ≤ 4096) := n4
      clear h0 hK ls zs C n4
      go_enter Tryd.func6, Tryd.ntmps6
      go_wp2_with fail
      refine Calls.mono NW.out ?_
      rintro e w1 ⟨⟨g, F, rfl, hg, _, s1⟩, hb1⟩
      have D1 : Hid (Below w.heap.size w w1) := hb1
      have HG : Hid (w.heap.size ≤ g) := hg
      have BB : Hid _ := SC.out.bytes n N4.out w1 s1 (KU.out _ D1.out) (Nat.lt_of_lt_of_le K0.out hg)
      clear s1 hb1 hg NW
      go_wp2_with fail
      refine Calls.mono BB.out ?_
      rintro e w2 ⟨⟨v2, rfl, ob2⟩, _, fr2⟩
      obtain ⟨a2, c2', e2⟩ := ob2.by.len
      have D2 : Hid (Below w.heap.size w w2) := D1.out.trans (fr2.below D1.out.size HG.out)
      have B2 : Hid (By w2 v2 (drawS seed 0 n)) := ob2.by
      subst e2
      rw [DL.out] at B2 ⊢
      clear ob2 fr2 BB D1
      by_cases h64 : seed.length ≤ 64
      · have l64 : (seed.length : Int) ≤ 64 := by omega
        generalize seed.length = sl at *
        go_wp2_with fail
        go_ret
        exact ⟨rfl, D2.out⟩
      · have l64 : ¬ (seed.length : Int) ≤ 64 := by omega
        have DE : Hid _ := DD.out (by omega)
        clear DD h64
        generalize hsl : seed.length = sl at *
        clear hsl
        generalize sumS seed = dg at *
        go_wp2_with fail
        refine (HS.out w2 (H0.out.up D2.out (Nat.le_refl _)) (KU.out _ D2.out)).mono ?_
        rintro e w5 ⟨rfl, hb5⟩
        have D5 : Hid (Below w.heap.size w w5) := D2.out.trans (hb5.mono D2.out.size)
        have B5 : Hid (By w5 (.slice a2 n c2') (drawS seed 0 n)) := B2.out.up hb5 (Nat.le_refl _)
        clear hb5 D2 B2 HS
        have T1 : Hid (∀ C t, C.size = 32 → World.there (w5.alloc (.cells C t)) w5.heap.size 0 (dg.map b8).length) := fun C t hC => (al1 w5 C t).1.there (by rw [List.length_map, SL.out, Array.length_toList, hC]; omega)
        go_wp2_with (refine wp_store_eq rfl 47 (.tmp 8) (.tmp 45) rfl w5.heap.size 0 (dg.map b8) rfl rfl (T1.out _ _ rfl) IS.out (one_b8 _) ?_)
        intro w6 hw6
        obtain ⟨b6, h6⟩ : Blk w6 w5.heap.size (dg.map b8) ∧ Below w5.heap.size w5 w6 := by
          rw [hw6.out]
          exact alst w5 _ _ _ (by rw [List.length_map, SL.out]; rfl)
        have E6 : Hid (By w6 (.slice (some ⟨w5.heap.size, 0, none⟩) 32 32) dg) := By.of_blk b6 SL.out
        have D6 : Hid (Below w.heap.size w w6) := D5.out.trans (h6.mono D5.out.size)
        have B6 : Hid (By w6 (.slice a2 n c2') (drawS seed 0 n)) := B5.out.up h6 (Nat.le_refl _)
        clear hw6 b6 h6 D5 B5 T1
        generalize w5.heap.size = g5 at *
        go_wp2_with fail
        refine (NS.out _ w6 E6.out (KU.out _ D6.out)).mono ?_
        rintro e w7 ⟨⟨g7, F7, rfl, hg7, _, s7⟩, hb7⟩
        have D7 : Hid (Below w.heap.size w w7) := D6.out.trans (hb7.mono D6.out.size)
        have HB7 : Hid (Below w6.heap.size w6 w7) := hb7
        have HG7 : Hid (w6.heap.size ≤ g7) := hg7
        have BB : Hid _ := SC.out.bytes n N4.out w7 s7 (KU.out _ D7.out) (Nat.lt_of_lt_of_le K0.out (Nat.le_trans D6.out.size hg7))
        rw [DE.out] at BB
        have HS7 : Hid (w6.heap.size ≤ w7.heap.size) := hb7.size
        clear s7 hb7 hg7 E6 NS
        go_wp2_with fail
        refine Calls.mono BB.out ?_
        rintro e w8 ⟨⟨v8, rfl, ob8⟩, _, fr8⟩
        have D8 : Hid (Below w.heap.size w w8) := D7.out.trans (fr8.below D7.out.size (Nat.le_trans D6.out.size HG7.out))
        have B8 : Hid (By w8 v8 (drawS seed 0 n)) := ob8.by
        have A8 : Hid (By w8 (.slice a2 n c2') (drawS seed 0 n)) := B6.out.up (HB7.out.trans (fr8.below HS7.out HG7.out)) (Nat.le_refl _)
        clear ob8 fr8 BB B6 HB7
        go_wp2_with fail
        refine (EQ.out _ _ w8 A8.out B8.out).mono ?_
        rintro e w9 ⟨rfl, hb9⟩
        have D9 : Hid (Below w.heap.size w w9) := D8.out.trans (hb9.mono D8.out.size)
        clear hb9 EQ
        go_wp2_with fail
        go_ret
        exact ⟨by simp, D9.out⟩
end Go.Proofs.YtfanndkhajokcaaDoor
