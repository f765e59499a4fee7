/- Package attr, as it landed: rising, Norm. -/
import Derived.Test.YtepaapiflkkghaaQAtL
import Derived.Test.YtepaapiflkkghaaQDerWToAtA
import Derived.Test.YtepaapiflkkghaaQAtCkToAtCh
namespace Go.Proofs.Ytepaapiflkkghaa
open Go.RowKit
attribute [local go_sem] World.cell?_alloc_some cell_alloc2 cell_alloc3 cell_alloc4 frozen?_alloc_cells frozen_out
set_option linter.unusedSimpArgs false
set_option maxRecDepth 20000 in
set_option maxHeartbeats 4000000 in
theorem rising_walk (l : List Ar) (v : Value) (w : World)
    (HV : Hid (Ats w v l)) (GT : Hid (∀ (k : Int) W, Ats W v l → Calls Try.prog 29 #[v, .int .i64 k] W fun e w' => (∃ u, e = .returned (.tuple #[u, .bool (getA l k).isSome]) ∧ Bk w' u ((getA l k).getD [])) ∧ Below W.heap.size W w')) :
    Calls Try.prog 72 #[v] w fun e w' => (∃ u, e = .returned u ∧ Oa w' w.heap.size u (risA l)) ∧ Below w.heap.size w w' := by
  have o0 : Hid (Oa w w.heap.size (.slice none 0 0) (risN l 0)) := Oa.nil _ _
  go_enter Try.func72, Try.ntmps72
  go_wp2_with fail
  go_loopw [3, 4] (fun u i wr => ∃ j : Nat, j ≤ 18 ∧ i = .int .i64 ((j : Int) + 1) ∧ Hid (Oa wr w.heap.size u (risN l j)) ∧ Hid (Below w.heap.size w wr)) (fun _ i _ => 20 - (intOf i).toNat)
  case atStart => exact ⟨0, Nat.zero_le _, rfl, o0, Below.refl _ _⟩
  case round =>
    clear o0
    obtain ⟨j, hj, rfl, ok, bk⟩ := hrel
    obtain ⟨ua, uc, eu⟩ := ats_parts ok.out.ats
    by_cases hlt : j < 18
    · have i1 : (j : Int) + 1 ≤ 18 := by omega
      have HJ : Hid (j < 18) := hlt
      have j20 : (j : Int) < 20 := by omega
      have j0 : (0 : Int) ≤ (j : Int) := by omega
      have G1 := GT.out ((j : Int) + 1) wr (HV.out.up bk.out (Nat.le_refl _))
      clear hlt hj
      cases hf : getA l ((j : Int) + 1) with
      | none =>
        rw [hf] at G1
        have e : risN l (j + 1) = risN l j := by rw [risN, hf, List.append_nil]
        rw [← e] at ok
        clear e eu hf
        go_wp2_with fail
        refine G1.mono ?_
        rintro e w1 ⟨⟨z, rfl, hz⟩, hb⟩
        have ok1 : Hid (Oa w1 w.heap.size u3 (risN l (j + 1))) := ok.out.up hb
        have b1 : Hid (Below w.heap.size w w1) := bk.out.trans (hb.mono bk.out.size)
        clear hz hb ok bk G1
        go_wp2_with fail
        go_roundw
        case rel => exact ⟨j + 1, HJ.out, by go_num, ok1, b1⟩
        case measure => simp [intOf]; have := HJ.out; omega
      | some x =>
        rw [hf] at G1
        have e : Hid (risN l (j + 1) = risN l j ++ [⟨(j : Int) + 1, x⟩]) := by show _ = _; rw [risN, hf]
        have LN : Hid ((risN l j).length ≤ 18) := Nat.le_trans (risN_len l j) (Nat.le_of_lt HJ.out)
        subst eu
        generalize (risN l j).length = nn at *
        clear hf
        go_wp2_with fail
        refine G1.mono ?_
        rintro e' w1 ⟨⟨z, rfl, hz⟩, hb⟩
        have U1 : Hid (Bk w1 z x) := hz
        have ok1 : Hid (Oa w1 w.heap.size (.slice ua nn uc) (risN l j)) := ok.out.up hb
        have b1 : Hid (Below w.heap.size w w1) := bk.out.trans (hb.mono bk.out.size)
        obtain ⟨za, zc, rfl⟩ := U1.out.1.len
        clear hz hb ok bk G1
        generalize x.length = m at *
        have ba : Below w1.heap.size w1 (w1.alloc (.cells #[.int .i64 ((j : Int) + 1), .slice za m zc] 64)) := (Below.refl _ _).alloc (Nat.le_refl _) _
        have ok2 : Hid (Oa (w1.alloc (.cells #[.int .i64 ((j : Int) + 1), .slice za m zc] 64)) w.heap.size (.slice ua nn uc) (risN l j)) := ok1.out.up ba
        have b2 : Hid (Below w.heap.size w (w1.alloc (.cells #[.int .i64 ((j : Int) + 1), .slice za m zc] 64))) := b1.out.trans (ba.mono b1.out.size)
        have U2 : Bk (w1.alloc (.cells #[.int .i64 ((j : Int) + 1), .slice za m zc] 64)) (.slice za m zc) x := U1.out.up ba
        have one : Hid (As (w1.alloc (.cells #[.int .i64 ((j : Int) + 1), .slice za m zc] 64)) w.heap.size (.slice (some ⟨w1.heap.size, 0, none⟩) 1 1) [⟨(j : Int) + 1, x⟩]) := As.one ⟨(j : Int) + 1, x⟩ _ U2.vk w1.heap.size (cell_top rfl) (cell_top rfl)
        have W3 : Hid (w.heap.size ≤ (w1.alloc (.cells #[.int .i64 ((j : Int) + 1), .slice za m zc] 64)).heap.size) := Nat.le_trans b1.out.size ba.size
        clear ok1 b1 ba U1 U2
        go_wp2_with (first | refine wp_buildAt rfl _ _ rfl ((j : Int) + 1) _ _ _ rfl rfl ?_ | refine wp_bsA rfl _ rfl ((j : Int) + 1) _ _ _ rfl ?_ | refine wp_appA rfl _ _ rfl w.heap.size _ _ (risN l j) [⟨(j : Int) + 1, x⟩] rfl ok2.out rfl one.out (by have := risN_len l j; have := HJ.out; simp only [List.length_cons, List.length_nil]; omega) W3.out ?_)
        intro v4 w4 o4 hg4
        have ok4 : Hid (Oa w4 w.heap.size v4 (risN l (j + 1))) := by rw [e.out]; exact o4
        have b4 : Hid (Below w.heap.size w w4) := Below.grown b2.out hg4 b2.out.size fun g hg => ok2.out.ge g hg
        clear o4 hg4 ok2 b2 one W3 e LN
        go_wp2_with fail
        go_roundw
        case rel => exact ⟨j + 1, HJ.out, by go_num, ok4, b4⟩
        case measure => simp [intOf]; have := HJ.out; omega
    · have ej : j = 18 := by omega
      have i1 : ¬ (j : Int) + 1 ≤ 18 := by omega
      rw [ej] at ok
      clear hlt hj ej eu
      go_wp2_with fail
      go_ret
      exact ⟨⟨_, rfl, ok.out⟩, bk.out⟩
/-- rising: the first of each kind, by rising kinds, in rows of its own. -/
theorem rising_fun (l : List Ar) (hs : l.length ≤ 4611686018427387904) (hz : ∀ x ∈ l, x.v.length ≤ 140737488351232) (v : Value) (w : World) (hv : Ats w v l) :
    Calls Try.prog 72 #[v] w fun e w' => (∃ u, e = .returned u ∧ Ats w' u (risA l)) ∧ Below w.heap.size w w' :=
  (rising_walk l v w hv fun k W h => get_fun v l k W hs hz h).mono fun _ _ ⟨⟨u, he, ho⟩, hb⟩ => ⟨⟨u, he, ho.ats⟩, hb⟩
theorem good_small {l : List Ar} (h : fltA l = 0) : l.length ≤ 24 ∧ ∀ x ∈ l, x.v.length ≤ 140737488351232 := by
  have := (fltA_zero l).1 h
  exact ⟨this.1, fun x hx => Nat.le_trans (fit_len (this.2.1 x hx).2.2) (by decide)⟩
end Go.Proofs.Ytepaapiflkkghaa
