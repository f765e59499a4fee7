/- Texts that were joined: DDigP, DDig, SNum. -/
import Derived.Test.YtjcnfffmciahiaaDoorGrp2
import Derived.Deep.RegionHeld
import Derived.Test.YtjcnfffmciahiaaDoorGrp11
import Derived.Test.YtjcnfffmciahiaaDoorScOf
import Derived.Test.YtjcnfffmciahiaaDoorGrp29
import Derived.Test.YtjcnfffmciahiaaDoorGrp8
import Derived.Test.YtjcnfffmciahiaaDoorGrp14
/- The contract of sealringref.Digits: a row of words' digits. -/
namespace Go.Proofs.YtjcnfffmciahiaaDoor
open Go.RowKit
attribute [local go_sem] World.cell?_alloc_some
/-- The number of a row of words. -/
def wv : List Nat → Nat
  | [] => 0
  | x :: xs => x + 18446744073709551616 * wv xs
theorem wv_take_succ (ws : List Nat) (j : Nat) (hj : j < ws.length) : wv (ws.take (j + 1)) = wv (ws.take j) + 65536 ^ (4 * j) * ws.getD j 0 := by
  induction ws generalizing j with
  | nil => simp at hj
  | cons x xs ih =>
    cases j with
    | zero => simp [wv]
    | succ j =>
      rw [List.take_succ_cons, wv, ih j (by simpa using hj), List.take_succ_cons, wv, List.getD_cons_succ, show 4 * (j + 1) = 4 * j + 4 by omega, Nat.pow_add]
      generalize 65536 ^ (4 * j) = B
      grind
set_option maxHeartbeats 2000000 in
theorem digits_fun (b : Nat) (ws : List Nat) (hw : ∀ x ∈ ws, x < 18446744073709551616) (n cp : Nat) (hn : n = ws.length) (ln : n < 65536) (w : World) (hc : ∀ j, j < n → w.cell? ⟨b, j, none⟩ = some (.int .u64 ((ws.getD j 0 : Nat) : Int))) :
    Calls Tryd.prog 25 #[.slice (some ⟨b, 0, none⟩) n cp] w fun e w' => (∃ v', e = .returned v' ∧ Sl w' v' (P.dg (wv ws))) ∧ Below w.heap.size w w' := by
  have HC : Hid _ := hc
  have HN : Hid _ := hn
  have HW : Hid _ := hw
  clear hc hn hw
  go_enter Tryd.func25, Tryd.ntmps25
  go_wp2_with fail
  go_loopw [3, 8] (fun o i wr => ∃ (j : Nat) (os : List Nat), j ≤ n ∧ i = .int .i64 j ∧ os.length = 4 * j ∧ P.Dg os ∧ Hid (P.dv os = wv (ws.take j)) ∧ Hid (Ow wr w.heap.size o os) ∧ Hid (Below w.heap.size w wr)) (fun _ i _ => n - (intOf i).toNat)
  case atStart => exact ⟨0, [], by omega, rfl, rfl, fun x hx => (by cases hx), (by simp [P.dv, wv] : P.dv [] = wv (ws.take 0)), Ow.nil _ _, Below.refl _ _⟩
  case round =>
    obtain ⟨j, os, hj, rfl, hlen, hdg, HV, ho, hb⟩ := hrel
    by_cases h1 : j < n
    · have i1 : (j : Int) < (n : Int) := by omega
      have i0 : (0 : Int) ≤ (j : Int) := by omega
      have hcell : wr.cell? ⟨b, j, none⟩ = some (.int .u64 ((ws.getD j 0 : Nat) : Int)) := (hb.out.cell (p := ⟨b, j, none⟩) (lt_of_cell (HC.out j h1))).trans (HC.out j h1)
      have NX : Hid _ := wv_take_succ ws j (by rw [← HN.out]; exact h1)
      have xl : ws.getD j 0 < 18446744073709551616 := by
        rw [List.getD_eq_getElem?_getD, List.getElem?_eq_getElem (by rw [← HN.out]; exact h1)]
        exact HW.out _ (List.getElem_mem _)
      generalize ws.getD j 0 = x at *
      have x0 : (0 : Int) ≤ (x : Int) := by omega
      have x1 : (x : Int) < 18446744073709551616 := by omega
      go_wp2_with fail
      go_loopw [3, 5, 12] (fun o c i wr' => ∃ (r : Nat) (os' : List Nat), r ≤ 4 ∧ i = .int .i64 r ∧ c = .int .u64 ((x / 65536 ^ r : Nat) : Int) ∧ os'.length = 4 * j + r ∧ P.Dg os' ∧ Hid (P.dv os' = wv (ws.take j) + 65536 ^ (4 * j) * (x % 65536 ^ r)) ∧ Hid (Ow wr' w.heap.size o os') ∧ Hid (Below w.heap.size w wr')) (fun _ _ i _ => 4 - (intOf i).toNat)
      case atStart => exact ⟨0, os, by omega, rfl, by simp, by omega, hdg, (by simp [HV.out, Nat.mod_one] : P.dv os = wv (ws.take j) + 65536 ^ (4 * j) * (x % 65536 ^ 0)), ho, hb⟩
      case round =>
        clear ho hb HV hdg hlen hcell
        obtain ⟨r, os, hr, rfl, rfl, hlen, hdg, HV, ho, hb⟩ := hrel
        by_cases h4 : r < 4
        · have i4 : (r : Int) < 4 := by omega
          have yl : x / 65536 ^ r < 18446744073709551616 := Nat.lt_of_le_of_lt (Nat.div_le_self _ _) xl
          have MS : Hid _ := P.mod_pow_succ' x r
          have DS : Hid (x / 65536 ^ (r + 1) = x / 65536 ^ r / 65536) := by rw [Nat.pow_succ, Nat.div_div_eq_div_mul]; exact (rfl : x / (65536 ^ r * 65536) = _)
          generalize x / 65536 ^ r = y at *
          have y0 : (0 : Int) ≤ (y : Int) := by omega
          have y1 : (y : Int) < 18446744073709551616 := by omega
          have TM : Hid ((y : Int) % 65536 = ((y % 65536 : Nat) : Int)) := (by omega : (y : Int) % 65536 = ((y % 65536 : Nat) : Int))
          go_wp2_with (at_builtin; refine wp_app rfl _ _ rfl w.heap.size _ os (y % 65536) _ wr rfl ho.out ((Below.refl _ _).alloc (Nat.le_refl _) _) ⟨wr.heap.size, 0, none⟩ rfl (by simp) TM.out (by omega) hb.out.size ?_)
          intro v' w3 o3 hb3
          have O3 : Hid _ := o3
          have b3 : Hid (Below w.heap.size w w3) := hb.out.trans hb3
          clear o3 hb3 ho hb
          go_wp2_with fail
          go_roundw
          case rel =>
            refine ⟨r + 1, os ++ [y % 65536], by omega, by go_num, ?_, by simp; omega, hdg.append (P.Dg.one (Nat.mod_lt _ (by decide))), ?_, O3, b3⟩
            · rw [DS.out]; exact congrArg (Value.int .u64) (by omega)
            · show P.dv (os ++ [y % 65536]) = _
              rw [P.dv_append, hlen, P.dv, P.dv, Nat.mul_zero, Nat.add_zero, HV.out, MS.out, Nat.mul_add, Nat.pow_add, Nat.mul_assoc, Nat.add_assoc]
          case measure => simp [intOf]; omega
        · have i4 : ¬ (r : Int) < 4 := by omega
          have r4 : r = 4 := by omega
          subst r4
          have VV : Hid (P.dv os = wv (ws.take (j + 1))) := by
            have h := HV.out
            rw [Nat.mod_eq_of_lt (show x < 65536 ^ 4 by omega)] at h
            show P.dv os = wv (ws.take (j + 1))
            rw [NX.out, h]
          go_wp2_with fail
          go_roundw
          case rel => exact ⟨j + 1, os, by omega, by go_num, by omega, hdg, VV, ho, hb⟩
          case measure => simp [intOf]; omega
    · have i1 : ¬ (j : Int) < (n : Int) := by omega
      have V : Hid (P.dv os = wv ws) := by
        have h := HV.out
        rw [List.take_of_length_le (by have := HN.out; omega)] at h
        exact h
      go_wp2_with fail
      refine (trim_fun _ os hdg (by omega) _ (Ow.sl ho.out)).mono ?_
      rintro e w1 ⟨⟨v', rfl, hs⟩, hb1⟩
      have b1 : Hid (Below w.heap.size w w1) := hb.out.trans (hb1.mono hb.out.size)
      have HS : Hid _ := hs
      clear hs hb1 hb ho
      go_wp2_with fail
      go_ret
      exact ⟨⟨v', rfl, by rw [← V.out]; exact HS.out⟩, b1.out⟩
end Go.Proofs.YtjcnfffmciahiaaDoor

/- The contract of sealringref.OfNum and OfWide. -/
namespace Go.Proofs.YtjcnfffmciahiaaDoor
open Go.RowKit
attribute [local go_sem] World.cell?_alloc_some
theorem toNat_word {x : Int} (h : Word x) : ((x.toNat : Nat) : Int) = x ∧ x.toNat < 18446744073709551616 := ⟨Int.toNat_of_nonneg h.1, by have := h.1; have := h.2; omega⟩
theorem wv_num {x : Nm} (h : x.ok) : wv [x.a.toNat, x.b.toNat, x.c.toNat, x.d.toNat] = x.nat := by
  have h1 := Nm.nat_cast h
  unfold Nm.val at h1
  have a1 := (toNat_word h.a).1; have b1 := (toNat_word h.b).1; have c1 := (toNat_word h.c).1; have d1 := (toNat_word h.d).1
  simp only [wv]
  omega
set_option maxHeartbeats 1000000 in
theorem ofNum_fun (x : Nm) (hx : x.ok) (w : World) :
    Calls Tryd.prog 5 #[N x] w fun e w' => (∃ v', e = .returned v' ∧ Sl w' v' (P.dg x.nat)) ∧ Below w.heap.size w w' := by
  have D : Hid (∀ (b : Nat) (w : World), (∀ j, j < 4 → w.cell? ⟨b, j, none⟩ = some (.int .u64 (([x.a.toNat, x.b.toNat, x.c.toNat, x.d.toNat].getD j 0 : Nat) : Int))) → Calls Tryd.prog 25 #[.slice (some ⟨b, 0, none⟩) 4 4] w fun e w' => (∃ v', e = .returned v' ∧ Sl w' v' (P.dg x.nat)) ∧ Below w.heap.size w w') := by
    intro b w h
    rw [← wv_num hx]
    refine digits_fun b _ ?_ 4 4 rfl (by decide) w h
    intro y hy
    simp only [List.mem_cons, List.not_mem_nil, or_false] at hy
    rcases hy with rfl | rfl | rfl | rfl
    · exact (toNat_word hx.a).2
    · exact (toNat_word hx.b).2
    · exact (toNat_word hx.c).2
    · exact (toNat_word hx.d).2
  have CE : Hid _ := And.intro (toNat_word hx.a).1 (And.intro (toNat_word hx.b).1 (And.intro (toNat_word hx.c).1 (toNat_word hx.d).1))
  go_enter Tryd.func5, Tryd.ntmps5
  go_wp2_with fail
  refine (D.out _ _ ?_).mono ?_
  · obtain ⟨ea, eb, ec, ed⟩ := CE.out
    intro j hj
    match j, hj with
    | 0, _ => simp [ea]
    | 1, _ => simp [eb]
    | 2, _ => simp [ec]
    | 3, _ => simp [ed]
  rintro e w1 ⟨⟨v', rfl, hs⟩, hb1⟩
  have HS : Hid _ := hs
  have b1 : Hid (Below w.heap.size w w1) := Below.trans (((Below.refl _ _).alloc (by simp) _).alloc (by simp) _) (hb1.mono (by simp <;> omega))
  clear hs hb1
  go_wp2_with fail
  go_ret
  exact ⟨⟨v', rfl, HS.out⟩, b1.out⟩
theorem wv_wide {l h : Nm} (ol : l.ok) (oh : h.ok) : wv [l.a.toNat, l.b.toNat, l.c.toNat, l.d.toNat, h.a.toNat, h.b.toNat, h.c.toNat, h.d.toNat] = V l h := by
  rw [V_nat ol oh, ← wv_num ol, ← wv_num oh]
  simp only [wv]
  omega
set_option maxHeartbeats 1000000 in
theorem ofWide_fun (l h : Nm) (ol : l.ok) (oh : h.ok) (w : World) :
    Calls Tryd.prog 15 #[Wv l h] w fun e w' => (∃ v', e = .returned v' ∧ Sl w' v' (P.dg (V l h))) ∧ Below w.heap.size w w' := by
  have D : Hid (∀ (b : Nat) (w : World), (∀ j, j < 8 → w.cell? ⟨b, j, none⟩ = some (.int .u64 (([l.a.toNat, l.b.toNat, l.c.toNat, l.d.toNat, h.a.toNat, h.b.toNat, h.c.toNat, h.d.toNat].getD j 0 : Nat) : Int))) → Calls Tryd.prog 25 #[.slice (some ⟨b, 0, none⟩) 8 8] w fun e w' => (∃ v', e = .returned v' ∧ Sl w' v' (P.dg (V l h))) ∧ Below w.heap.size w w') := by
    intro b w hc
    rw [← wv_wide ol oh]
    refine digits_fun b _ ?_ 8 8 rfl (by decide) w hc
    intro y hy
    simp only [List.mem_cons, List.not_mem_nil, or_false] at hy
    rcases hy with rfl | rfl | rfl | rfl | rfl | rfl | rfl | rfl
    · exact (toNat_word ol.a).2
    · exact (toNat_word ol.b).2
    · exact (toNat_word ol.c).2
    · exact (toNat_word ol.d).2
    · exact (toNat_word oh.a).2
    · exact (toNat_word oh.b).2
    · exact (toNat_word oh.c).2
    · exact (toNat_word oh.d).2
  have CE : Hid _ := And.intro (And.intro (toNat_word ol.a).1 (And.intro (toNat_word ol.b).1 (And.intro (toNat_word ol.c).1 (toNat_word ol.d).1))) (And.intro (toNat_word oh.a).1 (And.intro (toNat_word oh.b).1 (And.intro (toNat_word oh.c).1 (toNat_word oh.d).1)))
  go_enter Tryd.func15, Tryd.ntmps15
  go_wp2_with fail
  refine (D.out _ _ ?_).mono ?_
  · obtain ⟨⟨ea, eb, ec, ed⟩, ⟨fa, fb, fc, fd⟩⟩ := CE.out
    intro j hj
    match j, hj with
    | 0, _ => simp [ea]
    | 1, _ => simp [eb]
    | 2, _ => simp [ec]
    | 3, _ => simp [ed]
    | 4, _ => simp [fa]
    | 5, _ => simp [fb]
    | 6, _ => simp [fc]
    | 7, _ => simp [fd]
  rintro e w1 ⟨⟨v', rfl, hs⟩, hb1⟩
  have HS : Hid _ := hs
  have b1 : Hid (Below w.heap.size w w1) := Below.trans (((Below.refl _ _).alloc (by simp) _).alloc (by simp) _) (hb1.mono (by simp <;> omega))
  clear hs hb1
  go_wp2_with fail
  go_ret
  exact ⟨⟨v', rfl, HS.out⟩, b1.out⟩
end Go.Proofs.YtjcnfffmciahiaaDoor

/- The document's numbers: how often the base makes nothing; the number of bytes. -/
namespace Go.Proofs.YtjcnfffmciahiaaDoor
open Go.RowKit
set_option linter.unusedSimpArgs false
attribute [local go_sem] YieldsP execOp
attribute [local simp] MP.eq_p MP.sl_p MP.sl2_p
theorem S.le_drop {xs : List Nat} {i : Nat} (h : i < xs.length) : S.le (xs.drop i) = S.le (xs.drop (i + 1)) * 256 + xs.getD i 0 := by
  rw [List.drop_eq_getElem_cons h, S.le, List.getD_eq_getElem?_getD, List.getElem?_eq_getElem h, Option.getD_some]
  omega
theorem times_c (Z : Nat) (h : Z < 65536 ^ 64) (u v : Value) (w : World) (su : Sl w u (P.dg Z)) (sv : Sl w v [256]) :
    Calls Tryd.prog 11 #[u, v] w fun e w' => (∃ v', e = .returned v' ∧ Sl w' v' (P.dg (Z * 256))) ∧ Below w.heap.size w w' := by
  have := dtimes_fun u v _ _ (P.dg_Dg Z) (P.Dg.one (show 256 < 65536 by decide)) (Nat.lt_trans (dshort h) (by decide)) (by decide) w su sv
  rwa [P.dv_dg, show P.dv [256] = 256 from rfl] at this
theorem plus_c (Z x : Nat) (h : Z < 65536 ^ 64) (hx : x < 256) (u v : Value) (w : World) (su : Sl w u (P.dg Z)) (sv : Sl w v [x]) :
    Calls Tryd.prog 10 #[u, v] w fun e w' => (∃ v', e = .returned v' ∧ Sl w' v' (P.dg (Z + x))) ∧ Below w.heap.size w w' := by
  have := dplus_fun u v _ _ (P.dg_Dg Z) (P.Dg.one (show x < 65536 by omega)) (Nat.lt_trans (dshort h) (by decide)) (by simp) w su sv
  rwa [P.dv_dg, show P.dv [x] = x by simp [P.dv]] at this
set_option maxRecDepth 20000 in
set_option maxHeartbeats 1000000 in
theorem prime_fun (w : World) : Calls Tryd.prog 4 #[] w fun e w' => (∃ v', e = .returned v' ∧ Sl w' v' (P.dg Cv.ord)) ∧ Below w.heap.size w w' := by
  have T : Hid (∀ W, Calls Tryd.prog 24 #[.int .i64 252] W fun e w' => (∃ v', e = .returned v' ∧ Sl w' v' (P.dg (2 ^ 252))) ∧ Below W.heap.size W w') := fun W => twoTo_n 252 (by decide) W
  have D : Hid (∀ b W, W.cell? ⟨b, 0, none⟩ = some (.int .u64 6346243789798364141) → W.cell? ⟨b, 1, none⟩ = some (.int .u64 1503914060200516822) → Calls Tryd.prog 25 #[.slice (some ⟨b, 0, none⟩) 2 2] W fun e w' => (∃ v', e = .returned v' ∧ Sl w' v' (P.dg 27742317777372353535851937790883648493)) ∧ Below W.heap.size W w') := fun b W h0 h1 => by
    have := digits_fun b [6346243789798364141, 1503914060200516822] (by decide) 2 2 rfl (by decide) W (fun j hj => by
      match j, hj with
      | 0, _ => exact h0
      | 1, _ => exact h1)
    rwa [show wv [6346243789798364141, 1503914060200516822] = 27742317777372353535851937790883648493 by decide] at this
  have M1 : Hid (∀ u v W, Sl W u (P.dg (2 ^ 252)) → Sl W v (P.dg 27742317777372353535851937790883648493) → Calls Tryd.prog 10 #[u, v] W fun e w' => (∃ v', e = .returned v' ∧ Sl w' v' (P.dg Cv.ord)) ∧ Below W.heap.size W w') := fun u v W su sv => by
    have := plus_n (2 ^ 252) 27742317777372353535851937790883648493 (by decide) (by decide) u v W su sv
    rwa [show 2 ^ 252 + 27742317777372353535851937790883648493 = Cv.ord by decide] at this
  obtain ⟨Z, hZ⟩ : ∃ Z : Nat, Hid (27742317777372353535851937790883648493 = Z) := ⟨_, rfl⟩
  rw [hZ.out] at D M1
  obtain ⟨Y, hY⟩ : ∃ Y : Nat, Hid (2 ^ 252 = Y) := ⟨2 ^ 252, show Hid (2 ^ 252 = 2 ^ 252) from Eq.refl (2 ^ 252)⟩
  rw [hY.out] at T M1
  obtain ⟨O, hO⟩ : ∃ O, Hid (O = Cv.ord) := ⟨_, rfl⟩
  rw [← hO.out] at M1 ⊢
  go_enter Tryd.func4, Tryd.ntmps4
  go_wp2_with fail
  refine (T.out w).mono ?_
  rintro e w1 ⟨⟨u, rfl, su⟩, hb⟩
  have SU : Hid (Sl (w1.alloc (.cells #[.int .u64 6346243789798364141, .int .u64 1503914060200516822] 22)) u (P.dg Y)) := Sl.up (xs := P.dg Y) su ((Below.refl _ _).alloc (Nat.le_refl _) _)
  have B1 : Hid (Below w.heap.size w (w1.alloc (.cells #[.int .u64 6346243789798364141, .int .u64 1503914060200516822] 22))) := Below.alloc hb hb.size _
  clear su hb T
  go_wp2_with fail
  refine (D.out w1.heap.size _ (by simp [go_sem]) (by simp [go_sem])).mono ?_
  rintro e w2 ⟨⟨v, rfl, sv⟩, hb⟩
  have SV : Hid (Sl w2 v (P.dg Z)) := sv
  have SU2 : Hid (Sl w2 u (P.dg Y)) := Sl.up (xs := P.dg Y) SU.out hb
  have B2 : Hid (Below w.heap.size w w2) := B1.out.trans (hb.mono B1.out.size)
  clear sv hb D SU B1
  go_wp2_with fail
  refine (M1.out _ _ _ SU2.out SV.out).mono ?_
  rintro e w3 ⟨⟨v3, rfl, sv⟩, hb⟩
  have SV3 : Hid (Sl w3 v3 (P.dg O)) := sv
  have B3 : Hid (Below w.heap.size w w3) := B2.out.trans (hb.mono B2.out.size)
  clear sv hb M1 SU2 SV B2
  go_wp2_with fail
  go_ret
  exact ⟨⟨_, rfl, SV3.out⟩, B3.out⟩
theorem By.at_K {w : World} {ad : Option Addr} {n c K : Nat} {bs : List Nat} (hv : By w (.slice ad n c) bs) (hn : bs.length = n) (hK : K < bs.length) : ∃ g q, ad = some ⟨g, q, none⟩ ∧ Hid (∀ W, Below w.heap.size w W → W.cell? ⟨g, q + K, none⟩ = some (b8 (bs.getD K 0))) := by
  have hv' := hv
  obtain ⟨a', c', e, h1, h2, h3⟩ := hv
  cases e
  obtain ⟨g, q, e2, hc⟩ := h3 (by omega)
  refine ⟨g, q, e2, fun W hW => ?_⟩
  obtain ⟨a'', c'', e, _, _, h4⟩ := hv'.up hW (Nat.le_refl _)
  cases e
  obtain ⟨g', q', e3, hc'⟩ := h4 (by omega)
  rw [e2] at e3
  cases e3
  exact hc' K hK
set_option maxRecDepth 20000 in
set_option maxHeartbeats 2000000 in
theorem number_fun (bs : List Nat) (lo : ∀ x ∈ bs, x < 256) (hl : bs.length ≤ 64) (v : Value) (w : World) (hv : By w v bs) :
    Calls Tryd.prog 44 #[v] w fun e w' => (∃ v', e = .returned v' ∧ Sl w' v' (P.dg (S.le bs))) ∧ Below w.heap.size w w' := by
  have HV : Hid (By w v bs) := hv
  have LD : Hid _ := lo
  have HL : Hid _ := hl
  obtain ⟨ad, c, rfl, _⟩ := hv
  obtain ⟨n, hn⟩ : ∃ n, Hid (bs.length = n) := ⟨_, rfl⟩
  rw [hn.out] at HV
  rw [hn.out]
  have n64 : n ≤ 64 := by rw [← hn.out]; exact hl
  have wn : IntKind.i64.wrap ((n : Int) - 1) = (n : Int) - 1 := by rw [IntKind.wrap_i64]; omega
  clear lo hl
  go_enter Tryd.func44, Tryd.ntmps44
  go_wp2_with fail
  go_loopw [3, 4] (fun l i wr => ∃ K : Nat, K ≤ n ∧ i = .int .i64 ((K : Int) - 1) ∧ Hid (Sl wr l (P.dg (S.le (bs.drop K)))) ∧ Hid (Below w.heap.size w wr)) (fun _ i _ => (intOf i + 1).toNat)
  case atStart => exact ⟨n, Nat.le_refl _, by first | rfl | go_num, .inl ⟨rfl, by rw [List.drop_of_length_le (by rw [hn.out]; exact Nat.le_refl _)]; exact P.dg_zero⟩, Below.refl _ _⟩
  case round =>
    obtain ⟨K, hK, rfl, sx, hb⟩ := hrel
    cases K with
    | zero =>
      rw [List.drop_zero] at sx
      have j0 : ¬ ((((0 : Nat) : Int)) - 1 ≥ 0) := by omega
      go_wp2_with fail
      go_ret
      exact ⟨⟨_, rfl, sx.out⟩, hb.out⟩
    | succ K =>
      have e1 : ((K + 1 : Nat) : Int) - 1 = (K : Int) := by omega
      rw [e1]
      have hKl : K < bs.length := by rw [hn.out]; omega
      have HD : Hid (S.le (bs.drop K) = S.le (bs.drop (K + 1)) * 256 + bs.getD K 0) := S.le_drop hKl
      have ZL : Hid (S.le (bs.drop (K + 1)) * 256 < 65536 ^ 64) := by
        have h1 := S.le_lt (bs.drop (K + 1)) (fun x hx => LD.out x (List.mem_of_mem_drop hx))
        have h2 := Nat.pow_le_pow_right (n := 256) (by decide) (show (bs.drop (K + 1)).length ≤ 64 by rw [List.length_drop, hn.out]; omega)
        have h3 : (256 : Nat) ^ 64 * 256 < 65536 ^ 64 := by decide
        exact Nat.lt_of_lt_of_le (Nat.mul_lt_mul_of_pos_right (Nat.lt_of_lt_of_le h1 h2) (by decide)) (Nat.le_of_lt h3)
      have la : bs.getD K 0 < 256 := by
        rw [List.getD_eq_getElem?_getD, List.getElem?_eq_getElem hKl]
        exact LD.out _ (List.getElem_mem hKl)
      obtain ⟨g, q, ea, CA⟩ := By.at_K HV.out hn.out hKl
      subst ea
      generalize S.le (bs.drop (K + 1)) = Z at *
      generalize bs.getD K 0 = x at *
      have x0' : (0 : Int) ≤ (x : Int) := by omega
      have x2' : (x : Int) < 256 := by omega
      have TI : Hid _ := times_c Z (Nat.lt_of_le_of_lt (Nat.le_mul_of_pos_right _ (by decide)) ZL.out)
      have PL : Hid _ := plus_c (Z * 256) x ZL.out la
      have k0 : (0 : Int) ≤ (K : Int) := by omega
      have k1 : (K : Int) < (n : Int) := by omega
      have HK : Hid (K + 1 ≤ n) := hK
      have j0 : (K : Int) ≥ 0 := k0
      have wk : IntKind.i64.wrap ((K : Int) - 1) = (K : Int) - 1 := by rw [IntKind.wrap_i64]; omega
      clear hK e1 hKl la
      go_wp2_with fail
      refine wp_region_monoE [MP.sl (P.dg Z), MP.sl [256], MP.sl (P.dg (Z * 256)), MP.eq (.slice (some ⟨g, q, none⟩) n c), MP.eq (.int .i64 (K : Int)), MP.eq (.pointer (some ⟨g, q + K, none⟩)), MP.eq (.int .u8 (x : Int)), MP.eq (.int .i64 (x : Int)), MP.sl [x], MP.sl (P.dg (Z * 256 + x)), MP.sl (P.dg (Z * 256 + x))] (by kernel_rfl) (by kernel_rfl) rfl ?_
      apply Exists.intro
      refine ⟨fun vals => ?_, ?_, fun vals4 w4 hb4 hF => ?_⟩
      · simp only [putsV, dstL, List.length_cons, List.length_nil, Nat.zero_add, Nat.reduceAdd, List.getElem?_cons_zero, List.getElem?_cons_succ, Option.bind_some, Act.put, List.setIfInBounds_toArray, List.set_cons_succ, List.set_cons_zero]
        rfl
      · refine ⟨?_, ?_, ?_, ?_, ?_, ?_, ?_, ?_, ?_, ?_, ?_, trivial⟩
        · intro vals W hW hw hd
          try simp [Region.binds] at hd
          refine ⟨by first | rfl | simp [Region.wanted, yielded, hd], ?_⟩
          have h9 : vals 10 = u3 := (hw.out 10 (by kernel_rfl)).trans rfl
          simp [go_sem, h9]
          exact ⟨Sl.up (xs := P.dg Z) sx.out hW.out, Below.refl _ _⟩
        · intro vals W hW hw hd
          try simp [Region.binds] at hd
          refine ⟨by first | rfl | simp [Region.wanted, yielded, hd], ?_⟩
          simp [go_sem]
          exact ⟨Sl.one W 256 _ rfl, (Below.refl _ _).alloc (Nat.le_refl _) _⟩
        · intro vals W hW hw hd
          try simp [Region.binds] at hd
          refine ⟨by first | rfl | simp [Region.wanted, yielded, hd], ?_⟩
          simp [go_sem]
          exact (TI.out _ _ _ (by simp [hd]) (by simp [hd])).mono fun e w' ⟨⟨v', he, hs⟩, hb⟩ => ⟨v', he, hs, hb⟩
        · intro vals W hW hw hd
          try simp [Region.binds] at hd
          refine ⟨by first | rfl | simp [Region.wanted, yielded, hd], ?_⟩
          simp [go_sem, hd]
          exact Below.refl _ _
        · intro vals W hW hw hd
          try simp [Region.binds] at hd
          refine ⟨by first | rfl | simp [Region.wanted, yielded, hd], ?_⟩
          simp [go_sem, hd]
          exact Below.refl _ _
        · intro vals W hW hw hd
          try simp [Region.binds] at hd
          refine ⟨by first | rfl | simp [Region.wanted, yielded, hd], ?_⟩
          simp [go_sem, hd, k0, k1]
          exact Below.refl _ _
        · intro vals W hW hw hd
          try simp [Region.binds] at hd
          refine ⟨by first | rfl | simp [Region.wanted, yielded, hd], ?_⟩
          have ca := CA.out W (hb.out.trans (hW.out.mono hb.out.size))
          simp [go_sem, hd, ca, b8]
          exact Below.refl _ _
        · intro vals W hW hw hd
          try simp [Region.binds] at hd
          refine ⟨by first | rfl | simp [Region.wanted, yielded, hd], ?_⟩
          simp [go_sem, hd]
          exact ⟨by rw [IntKind.wrap_i64]; omega, Below.refl _ _⟩
        · intro vals W hW hw hd
          try simp [Region.binds] at hd
          refine ⟨by first | rfl | simp [Region.wanted, yielded, hd], ?_⟩
          simp [go_sem, hd]
          exact ⟨Sl.one W x _ rfl, (Below.refl _ _).alloc (Nat.le_refl _) _⟩
        · intro vals W hW hw hd
          try simp [Region.binds] at hd
          refine ⟨by first | rfl | simp [Region.wanted, yielded, hd], ?_⟩
          simp [go_sem]
          exact (PL.out _ _ _ (by simp [hd]) (by simp [hd])).mono fun e w' ⟨⟨v', he, hs⟩, hb⟩ => ⟨v', he, hs, hb⟩
        · intro vals W hW hw hd
          try simp [Region.binds] at hd
          refine ⟨by first | rfl | simp [Region.wanted, yielded, hd], ?_⟩
          simp [go_sem]
          exact ⟨by simp [hd], Below.refl _ _⟩
      obtain ⟨f0, f1, f2, f3, f4, f5, f6, f7, f8, f9, f10, _⟩ := hF
      simp only [MP.eq_p] at f3 f4 f5 f6 f7
      simp only [MP.sl_p] at f10
      have S9 : Hid (Sl w4 (vals4 10) (P.dg (Z * 256 + x))) := f10
      rw [← HD.out] at S9
      have b4 : Hid (Below w.heap.size w w4) := hb.out.trans (hb4.out.mono hb.out.size)
      clear f10 hb4 hb TI PL sx HD ZL CA
      go_wp2_with fail
      go_roundw
      case rel =>
        have := HK.out
        exact ⟨K, by omega, by first | rfl | go_num, S9, b4⟩
      case measure => simp [intOf]
end Go.Proofs.YtjcnfffmciahiaaDoor
