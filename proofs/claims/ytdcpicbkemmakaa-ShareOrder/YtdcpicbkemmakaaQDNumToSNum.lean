/- Texts that were joined: DNum, DDigP, DDig, UpMS, SNum. -/
import Derived.Test.YtdcpicbkemmakaaQDPlusToDNumP
import Derived.Test.YtdcpicbkemmakaaQDWords
import Derived.Test.YtdcpicbkemmakaaQDMathToDigO
import Derived.Deep.RegionHeld
import Derived.Test.YtdcpicbkemmakaaQStoreToKn
import Derived.Test.YtdcpicbkemmakaaQMulWToNmN
import Derived.Test.YtdcpicbkemmakaaQUpMToScOf
import Derived.Test.YtdcpicbkemmakaaQDRestToDPow
/- The contracts of sealringref's numbers, told by numbers: ToNum. -/
namespace Go.Proofs.Ytdcpicbkemmakaa
open Go.RowKit
set_option linter.unusedSimpArgs false
theorem toNum_of (X : Nat) (hX : X < 2 ^ 256) (u : Value) (w : World) (su : Sl w u (P.dg X)) :
    Calls Try.prog 25 #[u] w fun e w' => e = .returned (N (Nm.of ((X : Nat) : Int))) ∧ Below w.heap.size w w' := by
  have := toNum_fun u _ (P.dg_Dg X) (dshort (Nat.lt_trans hX (by decide))) w su
  rwa [P.dv_dg, Nat.mod_eq_of_lt hX] at this
end Go.Proofs.Ytdcpicbkemmakaa

/- The contract of sealringref.Digits: a row of words' digits. -/
namespace Go.Proofs.Ytdcpicbkemmakaa
open Go.RowKit
attribute [local go_sem] World.cell?_alloc_some
/-- The number of a row of words. -/
def wv : List Nat → Nat
  | [] => 0
  | x :: xs => x + 18446744073709551616 * wv xs
theorem wv_take_succ (ws : List Nat) (j : Nat) (hj : j < ws.length) : wv (ws.take (j + 1)) = wv (ws.take j) + 65536 ^ (4 * j) * ws.getD j 0 := by
  induction ws generalizing j with
  | nil => simp at hj
  | cons x xs ih =>
    cases j with
    | zero => simp [wv]
    | succ j =>
      rw [List.take_succ_cons, wv, ih j (by simpa using hj), List.take_succ_cons, wv, List.getD_cons_succ, show 4 * (j + 1) = 4 * j + 4 by omega, Nat.pow_add]
      generalize 65536 ^ (4 * j) = B
      grind
set_option maxHeartbeats 2000000 in
/-- The slice lies in a block of ints (or is nil). -/
def Tg (w : World) (v : Value) : Prop := blkP (fun b => ∃ cur fz, w.heap[b]? = some (.cells cur 3 fz)) v
theorem Tg.up {W w1 : World} {v : Value} (h : Tg W v) (hb : Below W.heap.size W w1) : Tg w1 v := by
  cases v with
  | slice a _ _ =>
    cases a with
    | none => exact trivial
    | some a =>
      obtain ⟨cur, fz, hg⟩ := h
      exact ⟨cur, fz, (hb.block a.block (Array.getElem?_eq_some_iff.1 hg).1).trans hg⟩
  | _ => exact trivial
theorem Ow.tg {w : World} {B : Nat} {v : Value} {xs : List Nat} (h : Ow w B v xs) : Tg w v := by
  rcases h.2 with ⟨e, _⟩ | ⟨g, cap, cur, e, hB, hg, _⟩
  · rw [e]; exact trivial
  · rw [e]; exact ⟨cur, _, hg⟩
/-- sealringref.Digits: the digits lie in a block of ints. -/
theorem digits_own (b : Nat) (ws : List Nat) (hw : ∀ x ∈ ws, x < 18446744073709551616) (n cp : Nat) (hn : n = ws.length) (ln : n < 65536) (w : World) (hc : ∀ j, j < n → w.cell? ⟨b, j, none⟩ = some (.int .u64 ((ws.getD j 0 : Nat) : Int))) :
    Calls Try.prog 19 #[.slice (some ⟨b, 0, none⟩) n cp] w fun e w' => (∃ v', e = .returned v' ∧ Sl w' v' (P.dg (wv ws)) ∧ Tg w' v') ∧ Below w.heap.size w w' := by
  have HC : Hid _ := hc
  have HN : Hid _ := hn
  have HW : Hid _ := hw
  clear hc hn hw
  go_enter Try.func19, Try.ntmps19
  go_wp2_with fail
  go_loopw [3, 8] (fun o i wr => ∃ (j : Nat) (os : List Nat), j ≤ n ∧ i = .int .i64 j ∧ os.length = 4 * j ∧ P.Dg os ∧ Hid (P.dv os = wv (ws.take j)) ∧ Hid (Ow wr w.heap.size o os) ∧ Hid (Below w.heap.size w wr)) (fun _ i _ => n - (intOf i).toNat)
  case atStart => exact ⟨0, [], by omega, rfl, rfl, fun x hx => (by cases hx), (by simp [P.dv, wv] : P.dv [] = wv (ws.take 0)), Ow.nil _ _, Below.refl _ _⟩
  case round =>
    obtain ⟨j, os, hj, rfl, hlen, hdg, HV, ho, hb⟩ := hrel
    by_cases h1 : j < n
    · have i1 : (j : Int) < (n : Int) := by omega
      have i0 : (0 : Int) ≤ (j : Int) := by omega
      have hcell : wr.cell? ⟨b, j, none⟩ = some (.int .u64 ((ws.getD j 0 : Nat) : Int)) := (hb.out.cell (p := ⟨b, j, none⟩) (lt_of_cell (HC.out j h1))).trans (HC.out j h1)
      have NX : Hid _ := wv_take_succ ws j (by rw [← HN.out]; exact h1)
      have xl : ws.getD j 0 < 18446744073709551616 := by
        rw [List.getD_eq_getElem?_getD, List.getElem?_eq_getElem (by rw [← HN.out]; exact h1)]
        exact HW.out _ (List.getElem_mem _)
      generalize ws.getD j 0 = x at *
      have x0 : (0 : Int) ≤ (x : Int) := by omega
      have x1 : (x : Int) < 18446744073709551616 := by omega
      go_wp2_with fail
      go_loopw [3, 5, 12] (fun o c i wr' => ∃ (r : Nat) (os' : List Nat), r ≤ 4 ∧ i = .int .i64 r ∧ c = .int .u64 ((x / 65536 ^ r : Nat) : Int) ∧ os'.length = 4 * j + r ∧ P.Dg os' ∧ Hid (P.dv os' = wv (ws.take j) + 65536 ^ (4 * j) * (x % 65536 ^ r)) ∧ Hid (Ow wr' w.heap.size o os') ∧ Hid (Below w.heap.size w wr')) (fun _ _ i _ => 4 - (intOf i).toNat)
      case atStart => exact ⟨0, os, by omega, rfl, by simp, by omega, hdg, (by simp [HV.out, Nat.mod_one] : P.dv os = wv (ws.take j) + 65536 ^ (4 * j) * (x % 65536 ^ 0)), ho, hb⟩
      case round =>
        clear ho hb HV hdg hlen hcell
        obtain ⟨r, os, hr, rfl, rfl, hlen, hdg, HV, ho, hb⟩ := hrel
        by_cases h4 : r < 4
        · have i4 : (r : Int) < 4 := by omega
          have yl : x / 65536 ^ r < 18446744073709551616 := Nat.lt_of_le_of_lt (Nat.div_le_self _ _) xl
          have MS : Hid _ := P.mod_pow_succ' x r
          have DS : Hid (x / 65536 ^ (r + 1) = x / 65536 ^ r / 65536) := by rw [Nat.pow_succ, Nat.div_div_eq_div_mul]; exact (rfl : x / (65536 ^ r * 65536) = _)
          generalize x / 65536 ^ r = y at *
          have y0 : (0 : Int) ≤ (y : Int) := by omega
          have y1 : (y : Int) < 18446744073709551616 := by omega
          have TM : Hid ((y : Int) % 65536 = ((y % 65536 : Nat) : Int)) := (by omega : (y : Int) % 65536 = ((y % 65536 : Nat) : Int))
          go_wp2_with (at_builtin; refine wp_app rfl _ _ rfl w.heap.size _ os (y % 65536) _ wr rfl ho.out ((Below.refl _ _).alloc (Nat.le_refl _) _) ⟨wr.heap.size, 0, none⟩ rfl (by simp) TM.out (by omega) hb.out.size ?_)
          intro v' w3 o3 hb3
          have O3 : Hid _ := o3
          have b3 : Hid (Below w.heap.size w w3) := hb.out.trans hb3
          clear o3 hb3 ho hb
          go_wp2_with fail
          go_roundw
          case rel =>
            refine ⟨r + 1, os ++ [y % 65536], by omega, by go_num, ?_, by simp; omega, hdg.append (P.Dg.one (Nat.mod_lt _ (by decide))), ?_, O3, b3⟩
            · rw [DS.out]; exact congrArg (Value.int .u64) (by omega)
            · show P.dv (os ++ [y % 65536]) = _
              rw [P.dv_append, hlen, P.dv, P.dv, Nat.mul_zero, Nat.add_zero, HV.out, MS.out, Nat.mul_add, Nat.pow_add, Nat.mul_assoc, Nat.add_assoc]
          case measure => simp [intOf]; omega
        · have i4 : ¬ (r : Int) < 4 := by omega
          have r4 : r = 4 := by omega
          subst r4
          have VV : Hid (P.dv os = wv (ws.take (j + 1))) := by
            have h := HV.out
            rw [Nat.mod_eq_of_lt (show x < 65536 ^ 4 by omega)] at h
            show P.dv os = wv (ws.take (j + 1))
            rw [NX.out, h]
          go_wp2_with fail
          go_roundw
          case rel => exact ⟨j + 1, os, by omega, by go_num, by omega, hdg, VV, ho, hb⟩
          case measure => simp [intOf]; omega
    · have i1 : ¬ (j : Int) < (n : Int) := by omega
      have V : Hid (P.dv os = wv ws) := by
        have h := HV.out
        rw [List.take_of_length_le (by have := HN.out; omega)] at h
        exact h
      go_wp2_with fail
      refine (trim_fun3 _ os hdg (by omega) _ (Ow.sl ho.out)).mono ?_
      rintro e w1 ⟨⟨v', rfl, hs, hg⟩, hb1⟩
      have GE : Hid (Tg w1 v') := hg _ ((Ow.tg ho.out).up hb1)
      have b1 : Hid (Below w.heap.size w w1) := hb.out.trans (hb1.mono hb.out.size)
      have HS : Hid _ := hs
      clear hs hb1 hb ho hg
      go_wp2_with fail
      go_ret
      exact ⟨⟨v', rfl, by rw [← V.out]; exact HS.out, GE.out⟩, b1.out⟩
theorem digits_fun (b : Nat) (ws : List Nat) (hw : ∀ x ∈ ws, x < 18446744073709551616) (n cp : Nat) (hn : n = ws.length) (ln : n < 65536) (w : World) (hc : ∀ j, j < n → w.cell? ⟨b, j, none⟩ = some (.int .u64 ((ws.getD j 0 : Nat) : Int))) :
    Calls Try.prog 19 #[.slice (some ⟨b, 0, none⟩) n cp] w fun e w' => (∃ v', e = .returned v' ∧ Sl w' v' (P.dg (wv ws))) ∧ Below w.heap.size w w' :=
  (digits_own b ws hw n cp hn ln w hc).mono fun _ _ ⟨⟨v', h1, h2, _⟩, hb⟩ => ⟨⟨v', h1, h2⟩, hb⟩
end Go.Proofs.Ytdcpicbkemmakaa

/- The contract of sealringref.OfNum and OfWide. -/
namespace Go.Proofs.Ytdcpicbkemmakaa
open Go.RowKit
attribute [local go_sem] World.cell?_alloc_some
theorem toNat_word {x : Int} (h : Word x) : ((x.toNat : Nat) : Int) = x ∧ x.toNat < 18446744073709551616 := ⟨Int.toNat_of_nonneg h.1, by have := h.1; have := h.2; omega⟩
theorem wv_num {x : Nm} (h : x.ok) : wv [x.a.toNat, x.b.toNat, x.c.toNat, x.d.toNat] = x.nat := by
  have h1 := Nm.nat_cast h
  unfold Nm.val at h1
  have a1 := (toNat_word h.a).1; have b1 := (toNat_word h.b).1; have c1 := (toNat_word h.c).1; have d1 := (toNat_word h.d).1
  simp only [wv]
  omega
set_option maxHeartbeats 1000000 in
/-- sealringref.OfNum: the digits lie in a block of ints. -/
theorem ofNum_own (x : Nm) (hx : x.ok) (w : World) :
    Calls Try.prog 10 #[N x] w fun e w' => (∃ v', e = .returned v' ∧ Sl w' v' (P.dg x.nat) ∧ Tg w' v') ∧ Below w.heap.size w w' := by
  have D : Hid (∀ (b : Nat) (w : World), (∀ j, j < 4 → w.cell? ⟨b, j, none⟩ = some (.int .u64 (([x.a.toNat, x.b.toNat, x.c.toNat, x.d.toNat].getD j 0 : Nat) : Int))) → Calls Try.prog 19 #[.slice (some ⟨b, 0, none⟩) 4 4] w fun e w' => (∃ v', e = .returned v' ∧ Sl w' v' (P.dg x.nat) ∧ Tg w' v') ∧ Below w.heap.size w w') := by
    intro b w h
    rw [← wv_num hx]
    refine digits_own b _ ?_ 4 4 rfl (by decide) w h
    intro y hy
    simp only [List.mem_cons, List.not_mem_nil, or_false] at hy
    rcases hy with rfl | rfl | rfl | rfl
    · exact (toNat_word hx.a).2
    · exact (toNat_word hx.b).2
    · exact (toNat_word hx.c).2
    · exact (toNat_word hx.d).2
  have CE : Hid _ := And.intro (toNat_word hx.a).1 (And.intro (toNat_word hx.b).1 (And.intro (toNat_word hx.c).1 (toNat_word hx.d).1))
  go_enter Try.func10, Try.ntmps10
  go_wp2_with fail
  refine (D.out _ _ ?_).mono ?_
  · obtain ⟨ea, eb, ec, ed⟩ := CE.out
    intro j hj
    match j, hj with
    | 0, _ => simp [ea]
    | 1, _ => simp [eb]
    | 2, _ => simp [ec]
    | 3, _ => simp [ed]
  rintro e w1 ⟨⟨v', rfl, hs, hg⟩, hb1⟩
  have HS : Hid _ := hs
  have GE : Hid (Tg w1 v') := hg
  have b1 : Hid (Below w.heap.size w w1) := Below.trans (((Below.refl _ _).alloc (by simp) _).alloc (by simp) _) (hb1.mono (by simp <;> omega))
  clear hs hb1 hg
  go_wp2_with fail
  go_ret
  exact ⟨⟨v', rfl, HS.out, GE.out⟩, b1.out⟩
theorem ofNum_fun (x : Nm) (hx : x.ok) (w : World) :
    Calls Try.prog 10 #[N x] w fun e w' => (∃ v', e = .returned v' ∧ Sl w' v' (P.dg x.nat)) ∧ Below w.heap.size w w' :=
  (ofNum_own x hx w).mono fun _ _ ⟨⟨v', h1, h2, _⟩, hb⟩ => ⟨⟨v', h1, h2⟩, hb⟩
end Go.Proofs.Ytdcpicbkemmakaa

/- The properties of slices of digits, for UpM's law. -/
namespace Go.Proofs.Ytdcpicbkemmakaa
open Go.RowKit
def MP.sl (xs : List Nat) : MP := ⟨fun v w => Sl w v xs, fun h hb => Sl.up h hb⟩
def MP.sl2 (xs ys : List Nat) : MP := ⟨fun v w => ∃ x y, v = .tuple #[x, y] ∧ Sl w x xs ∧ Sl w y ys, fun ⟨x, y, e, h1, h2⟩ hb => ⟨x, y, e, Sl.up h1 hb, Sl.up h2 hb⟩⟩
theorem MP.sl_p (xs : List Nat) (v : Value) (w : World) : (MP.sl xs).p v w = Sl w v xs := rfl
theorem MP.sl2_p (xs ys : List Nat) (v : Value) (w : World) : (MP.sl2 xs ys).p v w = ∃ x y, v = .tuple #[x, y] ∧ Sl w x xs ∧ Sl w y ys := rfl
end Go.Proofs.Ytdcpicbkemmakaa

/- The document's numbers: how often the base makes nothing; the number of bytes. -/
namespace Go.Proofs.Ytdcpicbkemmakaa
open Go.RowKit
set_option linter.unusedSimpArgs false
attribute [local go_sem] YieldsP execOp
attribute [local simp] MP.eq_p MP.sl_p MP.sl2_p
set_option maxRecDepth 20000 in
set_option maxHeartbeats 1000000 in
theorem prime_fun (w : World) : Calls Try.prog 11 #[] w fun e w' => (∃ v', e = .returned v' ∧ Sl w' v' (P.dg Cv.ord)) ∧ Below w.heap.size w w' := by
  have T : Hid (∀ W, Calls Try.prog 27 #[.int .i64 252] W fun e w' => (∃ v', e = .returned v' ∧ Sl w' v' (P.dg (2 ^ 252))) ∧ Below W.heap.size W w') := fun W => twoTo_n 252 (by decide) W
  have D : Hid (∀ b W, W.cell? ⟨b, 0, none⟩ = some (.int .u64 6346243789798364141) → W.cell? ⟨b, 1, none⟩ = some (.int .u64 1503914060200516822) → Calls Try.prog 19 #[.slice (some ⟨b, 0, none⟩) 2 2] W fun e w' => (∃ v', e = .returned v' ∧ Sl w' v' (P.dg 27742317777372353535851937790883648493)) ∧ Below W.heap.size W w') := fun b W h0 h1 => by
    have := digits_fun b [6346243789798364141, 1503914060200516822] (by decide) 2 2 rfl (by decide) W (fun j hj => by
      match j, hj with
      | 0, _ => exact h0
      | 1, _ => exact h1)
    rwa [show wv [6346243789798364141, 1503914060200516822] = 27742317777372353535851937790883648493 by decide] at this
  have M1 : Hid (∀ u v W, Sl W u (P.dg (2 ^ 252)) → Sl W v (P.dg 27742317777372353535851937790883648493) → Calls Try.prog 24 #[u, v] W fun e w' => (∃ v', e = .returned v' ∧ Sl w' v' (P.dg Cv.ord)) ∧ Below W.heap.size W w') := fun u v W su sv => by
    have := plus_n (2 ^ 252) 27742317777372353535851937790883648493 (by decide) (by decide) u v W su sv
    rwa [show 2 ^ 252 + 27742317777372353535851937790883648493 = Cv.ord by decide] at this
  obtain ⟨Z, hZ⟩ : ∃ Z : Nat, Hid (27742317777372353535851937790883648493 = Z) := ⟨_, rfl⟩
  rw [hZ.out] at D M1
  obtain ⟨Y, hY⟩ : ∃ Y : Nat, Hid (2 ^ 252 = Y) := ⟨2 ^ 252, show Hid (2 ^ 252 = 2 ^ 252) from Eq.refl (2 ^ 252)⟩
  rw [hY.out] at T M1
  obtain ⟨O, hO⟩ : ∃ O, Hid (O = Cv.ord) := ⟨_, rfl⟩
  rw [← hO.out] at M1 ⊢
  go_enter Try.func11, Try.ntmps11
  go_wp2_with fail
  refine (T.out w).mono ?_
  rintro e w1 ⟨⟨u, rfl, su⟩, hb⟩
  have SU : Hid (Sl (w1.alloc (.cells #[.int .u64 6346243789798364141, .int .u64 1503914060200516822] 25)) u (P.dg Y)) := Sl.up (xs := P.dg Y) su ((Below.refl _ _).alloc (Nat.le_refl _) _)
  have B1 : Hid (Below w.heap.size w (w1.alloc (.cells #[.int .u64 6346243789798364141, .int .u64 1503914060200516822] 25))) := Below.alloc hb hb.size _
  clear su hb T
  go_wp2_with fail
  refine (D.out w1.heap.size _ (by simp [go_sem]) (by simp [go_sem])).mono ?_
  rintro e w2 ⟨⟨v, rfl, sv⟩, hb⟩
  have SV : Hid (Sl w2 v (P.dg Z)) := sv
  have SU2 : Hid (Sl w2 u (P.dg Y)) := Sl.up (xs := P.dg Y) SU.out hb
  have B2 : Hid (Below w.heap.size w w2) := B1.out.trans (hb.mono B1.out.size)
  clear sv hb D SU B1
  go_wp2_with fail
  refine (M1.out _ _ _ SU2.out SV.out).mono ?_
  rintro e w3 ⟨⟨v3, rfl, sv⟩, hb⟩
  have SV3 : Hid (Sl w3 v3 (P.dg O)) := sv
  have B3 : Hid (Below w.heap.size w w3) := B2.out.trans (hb.mono B2.out.size)
  clear sv hb M1 SU2 SV B2
  go_wp2_with fail
  go_ret
  exact ⟨⟨_, rfl, SV3.out⟩, B3.out⟩
end Go.Proofs.Ytdcpicbkemmakaa
