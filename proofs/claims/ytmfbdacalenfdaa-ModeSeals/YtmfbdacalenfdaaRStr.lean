/- The contract of sealringref's Cipher.Streamed. -/
import Derived.Test.YtmfbdacalenfdaaAEnc
import Derived.Test.YtmfbdacalenfdaaGrp28
import Derived.Test.YtmfbdacalenfdaaGrp40
import Derived.Test.YtmfbdacalenfdaaDDigP
import Derived.Test.YtmfbdacalenfdaaGrp39
import Derived.Test.YtmfbdacalenfdaaSGet
import Derived.Test.YtmfbdacalenfdaaANewB
namespace Go.Proofs.Ytmfbdacalenfdaa
open Go.RowKit
set_option linter.unusedSimpArgs false
attribute [local go_sem] YieldsP execOp
attribute [local simp] MP.eq_p
theorem dig_one {x : Nat} (h : x < 65536) : P.Dg [x] ∧ P.dv [x] = x := ⟨fun y hy => by rw [List.mem_singleton.1 hy]; exact h, by simp [P.dv]⟩
theorem dg_low {y : Nat} (h : y < 65536) : (P.dg y).getD 0 0 = y := by
  rcases Nat.eq_zero_or_pos y with rfl | hp
  · rw [P.dg_zero]; rfl
  · rw [P.dg_pos (by omega)]
    show y % 65536 = y
    omega
/-- A slice of one number, made on the spot. -/
theorem sl_one {w : World} {k : Nat} {x : Nat} (h : w.cell? ⟨k, 0, none⟩ = some (.int .i64 (x : Int))) : Sl w (.slice (some ⟨k, 0, none⟩) 1 1) [x] :=
  .inr ⟨k, 0, 1, rfl, Nat.le_refl _, fun j hj => by match j, hj with | 0, _ => simpa using h⟩
theorem sl_nil (w : World) : Sl w (.slice none 0 0) [] := .inl ⟨rfl, rfl⟩
theorem small_n {X : Nat} (h : X < 2 ^ 200) : X < 65536 ^ 64 := Nat.lt_of_lt_of_le h (by decide)
theorem sl_set_byte {w : World} {v : Value} {xs : List Nat} {k u y : Nat} (h : Sl w v xs) (hc : w.cell? ⟨k, u, none⟩ = some (b8 y)) (z : Value) : Sl (w.setCell ⟨k, u, none⟩ z) v xs := by
  rcases h with h | ⟨b, o, c, e, hl, hcell⟩
  · exact .inl h
  · refine .inr ⟨b, o, c, e, hl, fun j hj => ?_⟩
    have h1 := hcell j hj
    have hne : ¬ (b = k ∧ o + j = u) := fun ⟨e1, e2⟩ => by
      rw [e1, e2, hc] at h1
      simp at h1
    rw [← h1]
    refine World.cell?_setCells_out k [z] u w ⟨b, o + j, none⟩ (fun e1 _ => ?_)
    have e1' : b = k := e1
    show o + j < u ∨ u + 1 ≤ o + j
    have : o + j ≠ u := fun e2 => hne ⟨e1', e2⟩
    omega
def MP.byA (xs : List Nat) : MP := ⟨fun v w => By w v xs, fun h hb => h.up hb (Nat.le_refl _)⟩
theorem yields_byA {o : Oper} {a : Act} {w : World} {x : Tmp} (y : Nat) (ho : o.op = .buildSlice 22 1 #[(0, .tmp x)]) (hx : a.tmps.getD x undef = b8 y) : YieldsP Try.prog o a w (MP.byA [y]).p := by
  have hx' : a.tmps[x]?.getD undef = b8 y := by simpa using hx
  have e : (execOp a.eval o).run Try.prog w = .ok (.value (.slice (some ⟨w.heap.size, 0, none⟩) 1 1)) (w.alloc (.cells #[b8 y] 5)) := by
    unfold execOp
    simp [ho, hx', go_sem]
  unfold YieldsP
  rw [e]
  exact ⟨By.one ((cell_top rfl).trans rfl), (al1 w _ _).2⟩
theorem yields_convA {o : Oper} {a : Act} {w : World} {φ : Value → World → Prop} (x : Operand) (ho : o.op = .convert 22 9 x) (v : Value) (xs : List Nat) (hx : a.eval x = v) (hv : By w v xs) (h : φ (.string (sOf xs)) w) : YieldsP Try.prog o a w φ := by
  have e : (execOp a.eval o).run Try.prog w = .ok (.value (.string (sOf xs))) w := by
    unfold execOp
    simp [ho, hx, bytes_conv hv]
  unfold YieldsP
  rw [e]
  exact ⟨h, Below.refl _ _⟩
namespace A
/-- The bytes of a number behind t of them are laid, from the last on. -/
def lastT (N t : Nat) : List Nat := by_ 16 fun q => if 16 - t ≤ q then N / 256 ^ (15 - q) % 256 else 0
theorem lastT_length (N t : Nat) : (lastT N t).length = 16 := by_length _ _
theorem lastT_zero (N : Nat) : lastT N 0 = List.replicate 16 0 := by
  unfold lastT
  refine Eq.trans (by_congr (g := fun _ => 0) fun q hq => if_neg (by omega)) ?_
  rfl
theorem lastT_all (N : Nat) : lastT N 16 = be16 N := by_congr fun _ _ => if_pos (by omega)
theorem lastT_set {N t : Nat} (h : t < 16) : (lastT N t).set (15 - t) (N / 256 ^ t % 256) = lastT N (t + 1) := by
  refine (by_self (l := (lastT N t).set (15 - t) (N / 256 ^ t % 256)) (by rw [List.length_set, lastT_length])).symm.trans (by_congr fun q hq => ?_)
  rw [getD_set _ _ _ _ (by rw [lastT_length]; omega)]
  by_cases e : 15 - t = q
  · rw [if_pos e, if_pos (by omega), show 15 - q = t by omega]
  · rw [if_neg e]
    unfold lastT
    rw [by_get hq]
    by_cases e2 : 16 - t ≤ q
    · rw [if_pos e2, if_pos (by omega)]
    · rw [if_neg e2, if_neg (by omega)]
end A
set_option maxRecDepth 20000 in
set_option maxHeartbeats 1000000 in
theorem rstreamed_fun (ws : List (List Nat)) (hw : A.okW ws) (r : Nat) (hl : ws.length = 4 * (r + 1)) (hz : r ≤ 20) (i0 : List Nat) (hi : A.ok 16 i0) (pl : Nat) (hpl : pl < 18446744073709551616) (p : List Nat) (hp : ∀ x ∈ p, x < 256) (zp : p.length ≤ 140737488351232) (kc : Nat) (w : World) (hc : Cph w kc ws) :
    Calls Try.prog 12 #[.pointer (some ⟨kc, 0, none⟩), aB i0, .int .u64 (pl : Int), .string (sOf p)] w fun e w' => e = .returned (.string (sOf (A.streamS ws i0 pl p))) ∧ Below w.heap.size w w' := by
  obtain ⟨S, hS⟩ : ∃ S : Nat → List Nat, ∀ j, S j = A.streamS ws i0 pl (p.take j) := ⟨_, fun _ => rfl⟩
  have SF : Hid (A.streamS ws i0 pl p = S p.length) := by rw [hS, List.take_length]; exact rfl
  have S0 : Hid (S 0 = []) := by rw [hS]; exact rfl
  have SS : Hid (∀ j, j < p.length → S (j + 1) = S j ++ [p.getD j 0 ^^^ (A.padB ws i0 ((pl + j) % 18446744073709551616 / 16)).getD ((pl + j) % 18446744073709551616 % 16) 0]) := fun j hj => by
    rw [hS, hS, List.take_succ_eq_append_getElem hj, A.stream_append]
    congr 1
    rw [List.length_take, Nat.min_eq_left (by omega)]
    unfold A.streamS
    show [_] = _
    simp [List.getD_eq_getElem?_getD, hj, A.strB]
  have SL : Hid (∀ j, j ≤ p.length → (S j).length = j) := fun j hj => by rw [hS, A.streamS_length, List.length_take]; omega
  rw [SF.out]
  have PG : Hid (∀ (j : Nat) (h : j < (sOf p).size), ((sOf p)[j]'h).toNat = p.getD j 0) := sOf_get hp
  have PZ : (sOf p).size = p.length := sOf_size p
  have PL : Hid (∀ j, p.getD j 0 < 256) := getD_low hp
  have PO : Hid (∀ q, A.ok 16 (A.padB ws i0 q)) := fun q => A.padB_ok hw i0 q
  have CU : Hid (∀ W, Below w.heap.size w W → Cph W kc ws) := fun W hW => hc.up hW
  have EN : Hid (∀ q W, Below w.heap.size w W → Calls Try.prog 35 #[.pointer (some ⟨kc, 0, none⟩), aB (A.be16 ((A.beV i0 + q) % 2 ^ 128))] W fun e w' => e = .returned (aB (A.padB ws i0 q)) ∧ Below W.heap.size W w') := fun q W hW => rencrypt_fun ws hw r hl hz _ (A.be16_ok _) kc W (hc.up hW)
  obtain ⟨PB, hPB⟩ : ∃ PB : Nat → List Nat, ∀ q, PB q = A.padB ws i0 q := ⟨_, fun _ => rfl⟩
  simp only [← hPB] at SS PO EN
  obtain ⟨BV, hBV⟩ : ∃ BV : Nat → Nat, ∀ t, BV t = A.beV (i0.take t) := ⟨_, fun _ => rfl⟩
  have B16 : Hid (BV 16 = A.beV i0) := by rw [hBV, List.take_of_length_le (by rw [hi.1]; exact Nat.le_refl _)]; exact rfl
  have B0 : Hid (BV 0 = 0) := by rw [hBV]; exact rfl
  have BS : Hid (∀ t, t < 16 → BV (t + 1) = BV t * 256 + i0.getD t 0) := fun t ht => by
    have hlt : t < i0.length := by rw [hi.1]; exact ht
    rw [hBV, hBV, List.take_succ_eq_append_getElem hlt, A.beV_snoc, List.getD_eq_getElem?_getD, List.getElem?_eq_getElem hlt]
    rfl
  have BL : Hid (∀ t, t ≤ 16 → BV t < 2 ^ 128) := fun t ht => by
    rw [hBV]
    have h1 := A.beV_lt (l := i0.take t) (fun x hx => hi.2 x (List.mem_of_mem_take hx))
    refine Nat.lt_of_lt_of_le h1 ?_
    rw [show (2 : Nat) ^ 128 = 256 ^ 16 by decide]
    exact Nat.pow_le_pow_right (by decide) (by rw [List.length_take]; omega)
  rw [← B16.out] at EN
  have IL : Hid (∀ t, i0.getD t 0 < 256) := fun t => hi.at t
  have HI : Hid (i0.length = 16) := hi.1
  have HP : Hid (pl < 18446744073709551616 ∧ p.length ≤ 140737488351232) := ⟨hpl, zp⟩
  obtain ⟨x0, x1, x2⟩ := al2 w (i0.map b8).toArray #[Value.int IntKind.u8 0, Value.int IntKind.u8 0, Value.int IntKind.u8 0, Value.int IntKind.u8 0, Value.int IntKind.u8 0, Value.int IntKind.u8 0, Value.int IntKind.u8 0, Value.int IntKind.u8 0, Value.int IntKind.u8 0, Value.int IntKind.u8 0, Value.int IntKind.u8 0, Value.int IntKind.u8 0, Value.int IntKind.u8 0, Value.int IntKind.u8 0, Value.int IntKind.u8 0, Value.int IntKind.u8 0] 23 23
  have X0 : Hid (Blk _ w.heap.size (i0.map b8)) := x0
  have X1 : Hid (Blk _ (w.heap.size + 1) ((List.replicate 16 0).map b8)) := x1
  have X2 : Hid (Below w.heap.size w _) := x2
  generalize sOf p = T at *
  generalize p.length = n at *
  clear x0 x1 x2 hS hPB hBV hw hl hz hi hp SF B16 hc hpl zp
  go_enter Try.func12, Try.ntmps12
  go_wp2_with (first | simp only [zero_a16])
  generalize World.alloc (w.alloc _) _ = w1 at *
  go_loopw [24, 9, 10] (fun i s h wr => ∃ (j hq : Nat) (l : List Nat), j ≤ n ∧ i = .int .i64 (j : Int) ∧ s = .string (sOf (S j)) ∧ h = .int .u64 (hq : Int) ∧ Hid (l.length = 16 ∧ (0 < j → l = PB hq)) ∧ Hid (Blk wr w.heap.size (i0.map b8)) ∧ Hid (Blk wr (w.heap.size + 1) (l.map b8)) ∧ Hid (Below w.heap.size w wr)) (fun i _ _ _ => n - (intOf i).toNat)
  case atStart => exact ⟨0, 0, List.replicate 16 0, by omega, rfl, by rw [S0.out]; rfl, rfl, ⟨by simp, fun h => absurd h (Nat.lt_irrefl _)⟩, X0, X1, X2⟩
  case round =>
    clear X0 X1 X2
    obtain ⟨j, hq, l, hj, rfl, rfl, rfl, LL, X0, X1, X2⟩ := hrel
    by_cases hj1 : j < n
    · have j1 : (j : Int) < (n : Int) := by omega
      have wj : IntKind.i64.wrap ((j : Int) + 1) = (j : Int) + 1 := by have := HP.out; rw [IntKind.wrap_i64]; omega
      have wu : IntKind.u64.wrap (j : Int) = (j : Int) := by have := HP.out; rw [IntKind.wrap_u64]; omega
      obtain ⟨P0, hP0⟩ : ∃ P0, P0 = (pl + j) % 18446744073709551616 := ⟨_, rfl⟩
      have wp : IntKind.u64.wrap ((pl : Int) + (j : Int)) = (P0 : Int) := by rw [IntKind.wrap_u64]; omega
      obtain ⟨q, hqe⟩ : ∃ q, q = P0 / 16 := ⟨_, rfl⟩
      obtain ⟨rr, hrr⟩ : ∃ rr, rr = P0 % 16 := ⟨_, rfl⟩
      have d1 : (P0 : Int).tdiv 16 = (q : Int) := by rw [Int.tdiv_eq_ediv_of_nonneg (by omega)]; omega
      have d2 : (P0 : Int) / 16 = (q : Int) := by omega
      have m1 : (P0 : Int).tmod 16 = (rr : Int) := by rw [Int.tmod_eq_emod_of_nonneg (by omega)]; omega
      have m2 : (P0 : Int) % 16 = (rr : Int) := by omega
      have wq : IntKind.u64.wrap (q : Int) = (q : Int) := by rw [IntKind.wrap_u64]; omega
      have SE : Hid (S (j + 1) = S j ++ [p.getD j 0 ^^^ (PB q).getD rr 0]) := by
        have := SS.out j hj1
        rw [← hP0, ← hqe, ← hrr] at this
        exact this
      have QL : Hid (q < 1152921504606846976 ∧ rr < 16) := by show _ ∧ _; omega
      have DG : Hid (∀ b W, (∀ t, t < 1 → W.cell? ⟨b, t, none⟩ = some (.int .u64 (([q].getD t 0 : Nat) : Int))) → Calls Try.prog 29 #[.slice (some ⟨b, 0, none⟩) 1 1] W fun e w' => (∃ v', e = .returned v' ∧ Sl w' v' (P.dg q)) ∧ Below W.heap.size W w') := fun b W h => by
        have := digits_fun b [q] (by simp; have := QL.out; omega) 1 1 rfl (by decide) W h
        rw [show wv [q] = q by simp [wv]] at this
        exact this
      have J1 : Hid (j < n) := hj1
      clear hP0 hqe hrr hj hj1
      by_cases hcase : j = 0 ∨ ¬ q = hq
      · by_cases h0 : j = 0
        · have z0 : ((j : Int) == 0) = true := by simp [h0]
          clear hcase h0
          go_wp2_with fail
          refine Calls.mono (DG.out _ _ ?_) ?_
          · intro t ht
            obtain rfl : t = 0 := by omega
            simp
          rintro e w2 ⟨⟨v2, rfl, s2⟩, hb2⟩
          obtain ⟨y0, y1⟩ := al1 wr #[.int .u64 (q : Int)] 24
          have D2 : Hid (Below wr.heap.size wr w2) := by
            first
            | exact y1.trans (hb2.mono (by simp))
            | exact (al1 wr _ _).2.trans (hb2.mono (by simp))
          have N2 : Hid _ := plus_n q 0 (small_n (by have := QL.out; omega)) (by decide) v2 (.slice none 0 0) w2 s2 (by rw [P.dg_zero]; exact sl_nil w2)
          clear hb2 s2 y0 y1 DG
          go_wp2_with fail
          refine Calls.mono N2.out ?_
          rintro e w3 ⟨⟨v3, rfl, s3⟩, hb3⟩
          rw [Nat.add_zero] at s3
          have V3 : Hid (Sl w3 v3 (P.dg q)) := s3
          have D3 : Hid (Below wr.heap.size wr w3) := D2.out.trans (hb3.mono D2.out.size)
          have I3 : Hid (w3.rangeAt w.heap.size 0 (i0.map b8)) := (X0.out.up D3.out X0.out.lt).all
          clear N2 D2 hb3 s3
          have T3 : Hid (Sl w3 (.slice none 0 0) (P.dg (BV 0))) := by rw [B0.out, P.dg_zero]; exact sl_nil w3
          go_wp2_with (refine wpList_load_mid rfl 23 (.tmp 5) rfl w.heap.size 0 rfl (i0.map b8) _ I3.out u_a16 rfl (info_n info_a16 i0 HI.out) ?_)
          go_loopw [46, 16] (fun i s wx => ∃ (t : Nat) (sv : Value), t ≤ 16 ∧ i = .int .i64 (t : Int) ∧ sv = s ∧ Hid (Sl wx sv (P.dg (BV t))) ∧ Hid (Below w3.heap.size w3 wx)) (fun i _ _ => 16 - (intOf i).toNat)
          case atStart => exact ⟨0, _, by omega, rfl, rfl, T3, Below.refl _ _⟩
          case round =>
            clear T3
            obtain ⟨t, sv, ht, rfl, rfl, st, bt⟩ := hrel
            by_cases ht1 : t < 16
            · have t1 : (t : Int) < 16 := by omega
              have wt : IntKind.i64.wrap ((t : Int) + 1) = (t : Int) + 1 := by rw [IntKind.wrap_i64]; omega
              have T1 : Hid (t < 16) := ht1
              have BN : Hid (BV t < 2 ^ 128 ∧ BV (t + 1) = BV t * 256 + i0.getD t 0 ∧ i0.getD t 0 < 256) := ⟨BL.out t (by omega), BS.out t ht1, IL.out t⟩
              obtain ⟨X, hX⟩ : ∃ X, X = BV t := ⟨_, rfl⟩
              obtain ⟨Y, hY⟩ : ∃ Y, i0.getD t 0 = Y := ⟨_, rfl⟩
              have HY : Hid (i0.getD t 0 = Y) := hY
              rw [hY, ← hX] at BN
              rw [← hX] at st
              have w8 : IntKind.i64.wrap (Y : Int) = (Y : Int) := by have := BN.out; rw [IntKind.wrap_i64]; omega
              have XS : Hid (X < 65536 ^ 64 ∧ X * 256 < 65536 ^ 64) := ⟨small_n (Nat.lt_trans BN.out.1 (by decide)), small_n (by have := BN.out.1; omega)⟩
              have TM : Hid (∀ k W, Below wr.heap.size wr W → W.cell? ⟨k, 0, none⟩ = some (.int .i64 256) → Calls Try.prog 30 #[sv, .slice (some ⟨k, 0, none⟩) 1 1] W fun e w' => (∃ v', e = .returned v' ∧ Sl w' v' (P.dg (X * 256))) ∧ Below W.heap.size W w') := fun k W hW hk => by
                have := dtimes_fun sv _ (P.dg X) [256] (P.dg_Dg X) (dig_one (by decide)).1 (Nat.lt_trans (dshort XS.out.1) (by decide)) (by decide) W (st.out.up hW) (sl_one hk)
                rwa [P.dv_dg, (dig_one (by decide)).2] at this
              have PM : Hid (∀ v k W, Sl W v (P.dg (X * 256)) → W.cell? ⟨k, 0, none⟩ = some (.int .i64 (Y : Int)) → Calls Try.prog 28 #[v, .slice (some ⟨k, 0, none⟩) 1 1] W fun e w' => (∃ v', e = .returned v' ∧ Sl w' v' (P.dg (X * 256 + Y))) ∧ Below W.heap.size W w') := fun v k W hv hk => by
                have hY := BN.out.2.2
                have := dplus_fun v _ (P.dg (X * 256)) [Y] (P.dg_Dg _) (dig_one (by omega)).1 (Nat.lt_trans (dshort XS.out.2) (by decide)) (by simp) W hv (sl_one hk)
                rwa [P.dv_dg, (dig_one (by omega)).2] at this
              have BX : Hid (BV (t + 1) = X * 256 + Y) := BN.out.2.1
              clear hX hY ht ht1 BN XS
              go_wp2_with (refine wp_idxB rfl u_a16 (.tmp 45) (.tmp 46) rfl i0 HI.out t .i64 T1.out rfl rfl Y HY.out ?_)
              refine Calls.mono (TM.out _ _ (al1 wr _ _).2 (by simp)) ?_
              rintro e w5 ⟨⟨v5, rfl, s5⟩, hb5⟩
              have D5 : Hid (Below wr.heap.size wr w5) := (al1 wr _ _).2.trans (hb5.mono (by simp))
              have V5 : Hid (Sl w5 v5 (P.dg (X * 256))) := s5
              clear s5 hb5 TM
              go_wp2_with fail
              refine Calls.mono (PM.out v5 _ _ (V5.out.up (al1 w5 _ _).2) (by simp)) ?_
              rintro e w6 ⟨⟨v6, rfl, s6⟩, hb6⟩
              have D6 : Hid (Below w5.heap.size w5 w6) := (al1 w5 _ _).2.trans (hb6.mono (by simp))
              have D7 : Hid (Below w3.heap.size w3 w6) := bt.out.trans ((D5.out.trans (D6.out.mono D5.out.size)).mono bt.out.size)
              have V6 : Hid (Sl w6 v6 (P.dg (BV (t + 1)))) := by rw [BX.out]; exact s6
              clear s6 hb6 PM V5 D5 D6 BX
              go_wp2_with fail
              go_roundw
              case rel => exact ⟨t + 1, v6, T1.out, by first | rfl | go_num, rfl, V6, D7⟩
              case measure => have := T1.out; simp [intOf]; omega
            · obtain rfl : t = 16 := by omega
              clear ht ht1
              have QB : Hid (BV 16 < 2 ^ 128 ∧ q < 2 ^ 128) := ⟨BL.out 16 (by omega), by have := QL.out; omega⟩
              have N1 : Hid _ := plus_n (BV 16) q (small_n (Nat.lt_trans QB.out.1 (by decide))) (small_n (Nat.lt_trans QB.out.2 (by decide))) sv v3 wr st.out (V3.out.up bt.out)
              obtain ⟨M, hM⟩ : ∃ M, M = BV 16 + q := ⟨_, rfl⟩
              rw [← hM] at N1
              have MB : Hid (M < 2 ^ 129) := by have := QB.out; show _ < _; omega
              have HM : Hid (M = BV 16 + q) := hM
              clear hM st QB
              go_wp2_with fail
              refine Calls.mono N1.out ?_
              rintro e w5 ⟨⟨v5, rfl, s5⟩, hb5⟩
              have V5 : Hid (Sl w5 v5 (P.dg M)) := s5
              have D5 : Hid (Below w3.heap.size w3 w5) := bt.out.trans (hb5.mono bt.out.size)
              have N2 : Hid _ := twoTo_n 128 (by decide) w5
              clear s5 hb5 bt N1
              go_wp2_with fail
              refine Calls.mono N2.out ?_
              rintro e w6 ⟨⟨v6, rfl, s6⟩, hb6⟩
              have N3 : Hid _ := rest_n M (2 ^ 128) (small_n (Nat.lt_trans MB.out (by decide))) (by decide) (by decide) v5 v6 w6 (V5.out.up hb6) s6
              have D6 : Hid (Below w3.heap.size w3 w6) := D5.out.trans (hb6.mono D5.out.size)
              clear s6 hb6 V5 D5 N2
              obtain ⟨N0, hN0⟩ : ∃ N0, N0 = M % 2 ^ 128 := ⟨_, rfl⟩
              rw [← hN0] at N3
              have HN0 : Hid (N0 = (BV 16 + q) % 2 ^ 128) := by rw [hN0, HM.out]; exact rfl
              clear hN0 HM MB
              go_wp2_with fail
              refine Calls.mono N3.out ?_
              rintro e w7 ⟨⟨v7, rfl, s7⟩, hb7⟩
              have D7 : Hid (Below w3.heap.size w3 w7) := D6.out.trans (hb7.mono D6.out.size)
              have V7 : Hid (Sl w7 v7 (P.dg N0)) := s7
              clear s7 hb7 D6 N3
              obtain ⟨y0, y1⟩ := al1 w7 #[Value.int IntKind.u8 0, Value.int IntKind.u8 0, Value.int IntKind.u8 0, Value.int IntKind.u8 0, Value.int IntKind.u8 0, Value.int IntKind.u8 0, Value.int IntKind.u8 0, Value.int IntKind.u8 0, Value.int IntKind.u8 0, Value.int IntKind.u8 0, Value.int IntKind.u8 0, Value.int IntKind.u8 0, Value.int IntKind.u8 0, Value.int IntKind.u8 0, Value.int IntKind.u8 0, Value.int IntKind.u8 0] 23
              have Y0 : Hid (Blk (w7.alloc (.cells #[Value.int IntKind.u8 0, Value.int IntKind.u8 0, Value.int IntKind.u8 0, Value.int IntKind.u8 0, Value.int IntKind.u8 0, Value.int IntKind.u8 0, Value.int IntKind.u8 0, Value.int IntKind.u8 0, Value.int IntKind.u8 0, Value.int IntKind.u8 0, Value.int IntKind.u8 0, Value.int IntKind.u8 0, Value.int IntKind.u8 0, Value.int IntKind.u8 0, Value.int IntKind.u8 0, Value.int IntKind.u8 0] 23)) w7.heap.size ((A.lastT N0 0).map b8)) := by rw [A.lastT_zero]; exact y0
              have Y1 : Hid (Below w7.heap.size w7 _) := y1
              have V8 : Hid (Sl (w7.alloc (.cells #[Value.int IntKind.u8 0, Value.int IntKind.u8 0, Value.int IntKind.u8 0, Value.int IntKind.u8 0, Value.int IntKind.u8 0, Value.int IntKind.u8 0, Value.int IntKind.u8 0, Value.int IntKind.u8 0, Value.int IntKind.u8 0, Value.int IntKind.u8 0, Value.int IntKind.u8 0, Value.int IntKind.u8 0, Value.int IntKind.u8 0, Value.int IntKind.u8 0, Value.int IntKind.u8 0, Value.int IntKind.u8 0] 23)) v7 (P.dg (N0 / 256 ^ 0))) := by rw [Nat.pow_zero, Nat.div_one]; exact V7.out.up y1
              clear y0 y1 V7
              go_wp2_with (first | simp only [zero_a16])
              generalize w7.alloc _ = w8 at *
              obtain ⟨kb, hkb⟩ : ∃ kb, kb = w7.heap.size := ⟨_, rfl⟩
              rw [← hkb] at Y0 ⊢
              have KB7 : Hid (kb = w7.heap.size) := hkb
              clear hkb
              go_loopw [20, 16] (fun i s wx => ∃ (t : Nat) (sv : Value), t ≤ 16 ∧ i = .int .i64 (15 - (t : Int)) ∧ sv = s ∧ Hid (Sl wx sv (P.dg (N0 / 256 ^ t))) ∧ Hid (Blk wx kb ((A.lastT N0 t).map b8)) ∧ Hid (Below w7.heap.size w7 wx)) (fun i _ _ => (intOf i + 1).toNat)
              case atStart => exact ⟨0, _, by omega, rfl, rfl, V8, Y0, Y1⟩
              case round =>
                clear V8 Y0 Y1
                obtain ⟨t, sv, ht, rfl, rfl, st, yt, bt⟩ := hrel
                by_cases ht1 : t < 16
                · obtain ⟨u, hu⟩ : ∃ u, u = 15 - t := ⟨_, rfl⟩
                  have eu : (15 : Int) - (t : Int) = (u : Int) := by omega
                  rw [eu]
                  have u0 : (0 : Int) ≤ (u : Int) := by omega
                  have u1 : (u : Int) < 16 := by omega
                  have wu : IntKind.i64.wrap ((u : Int) - 1) = (u : Int) - 1 := by rw [IntKind.wrap_i64]; omega
                  have UT : Hid (u + t = 15) := by show _ = _; omega
                  obtain ⟨L, hL⟩ : ∃ L, L = N0 / 256 ^ t := ⟨_, rfl⟩
                  have NX : Hid (N0 / 256 ^ (t + 1) = L / 256) := by rw [hL, Nat.pow_succ, Nat.div_div_eq_div_mul]; exact rfl
                  have SE : Hid ((A.lastT N0 t).set u (L % 256) = A.lastT N0 (t + 1)) := by rw [hu, hL]; exact A.lastT_set ht1
                  rw [← hL] at st
                  have LB : Hid (L < 65536 ^ 64) := by
                    rw [hL]
                    refine small_n (Nat.lt_of_le_of_lt (Nat.div_le_self _ _) ?_)
                    rw [HN0.out]
                    exact Nat.lt_of_lt_of_le (Nat.mod_lt _ (by decide)) (by decide)
                  have PT : Hid (∀ k W, Below wr.heap.size wr W → W.cell? ⟨k, 0, none⟩ = some (.int .i64 256) → Calls Try.prog 33 #[sv, .slice (some ⟨k, 0, none⟩) 1 1] W fun e w' => (∃ v1 v2, e = .returned (.tuple #[v1, v2]) ∧ Sl w' v1 (P.dg (L / 256)) ∧ Sl w' v2 (P.dg (L % 256))) ∧ Below W.heap.size W w') := fun k W hW hk => by
                    have := dparts_fun sv _ (P.dg L) [256] (P.dg_Dg L) (dig_one (by decide)).1 (by rw [(dig_one (by decide)).2]; decide) (dshort LB.out) (by decide) W (st.out.up hW) (sl_one hk)
                    rwa [P.dv_dg, (dig_one (by decide)).2] at this
                  obtain ⟨z, hzz⟩ : ∃ z, z = L % 256 := ⟨_, rfl⟩
                  have z8 : IntKind.u8.wrap (z : Int) = (z : Int) := by rw [IntKind.wrap_u8]; omega
                  have DGT : Hid (∀ v W, Sl W v (P.dg z) → Calls Try.prog 34 #[v, .int .i64 0] W fun e w' => e = .returned (.int .i64 (z : Int)) ∧ Below W.heap.size W w') := fun v W hv => by
                    have := digit_fun v (P.dg z) 0 W hv
                    rwa [dg_low (by omega)] at this
                  rw [← hzz] at PT SE
                  have T1 : Hid (t < 16) := ht1
                  clear hL hzz hu ht ht1 LB
                  go_wp2_with fail
                  refine Calls.mono (PT.out _ _ (al1 wr _ _).2 (by simp)) ?_
                  rintro e w9 ⟨⟨v9, v10, rfl, s9, s10⟩, hb9⟩
                  have D9 : Hid (Below wr.heap.size wr w9) := (al1 wr _ _).2.trans (hb9.mono (by simp))
                  have V9 : Hid (Sl w9 v9 (P.dg (L / 256))) := s9
                  have N9 : Hid _ := DGT.out v10 w9 s10
                  clear s9 s10 hb9 PT DGT st
                  go_wp2_with fail
                  refine Calls.mono N9.out ?_
                  rintro e w10 ⟨rfl, hb10⟩
                  have D10 : Hid (Below wr.heap.size wr w10) := D9.out.trans (hb10.mono D9.out.size)
                  have Y10 : Hid (Blk w10 kb ((A.lastT N0 t).map b8)) := yt.out.up D10.out yt.out.lt
                  have V10 : Hid (Sl w10 v9 (P.dg (L / 256))) := V9.out.up hb10
                  have c10 := Y10.out.byte u (by rw [A.lastT_length]; have := UT.out; omega)
                  have f10 := Y10.out.fz u
                  have Y11 : Hid _ := Y10.out.setB u z (by rw [A.lastT_length]; have := UT.out; omega)
                  rw [SE.out] at Y11
                  have V11 : Hid (Sl (w10.setCell ⟨kb, u, none⟩ (b8 z)) v9 (P.dg (N0 / 256 ^ (t + 1)))) := by rw [NX.out]; exact sl_set_byte V10.out c10 (b8 z)
                  have D11 : Hid _ := (bt.out.trans (D10.out.mono bt.out.size)).setCell (p := ⟨kb, u, none⟩) (by rw [KB7.out]; exact Nat.le_refl _) (b8 z)
                  clear hb10 D10 Y10 V10 V9 D9 N9 yt bt NX SE eu
                  go_wp2_with fail
                  go_roundw
                  case rel =>
                    have h := UT.out
                    have e : (u : Int) - 1 = 15 - ((t + 1 : Nat) : Int) := by omega
                    rw [e]
                    exact ⟨t + 1, v9, T1.out, rfl, rfl, V11, Y11, D11⟩
                  case measure => first | (simp [intOf]; done) | (have := UT.out; simp [intOf]; omega)
                · obtain rfl : t = 16 := by omega
                  clear ht ht1
                  rw [A.lastT_all] at yt
                  have n0 : ¬ (0 : Int) ≤ 15 - ((16 : Nat) : Int) := by omega
                  have I8 : Hid (wr.rangeAt kb 0 ((A.be16 N0).map b8)) := yt.out.all
                  have D12 : Hid (Below w3.heap.size w3 wr) := D7.out.trans (bt.out.mono D7.out.size)
                  have XO : Hid (Blk wr w.heap.size (i0.map b8)) := X0.out.up (D3.out.trans (D12.out.mono D3.out.size)) X0.out.lt
                  have XP : Hid (Blk wr (w.heap.size + 1) (l.map b8)) := X1.out.up (D3.out.trans (D12.out.mono D3.out.size)) X1.out.lt
                  have XW : Hid (Below w.heap.size w wr) := X2.out.trans ((D3.out.trans (D12.out.mono D3.out.size)).mono X2.out.size)
                  have EW : Hid _ := EN.out q wr XW.out
                  rw [← HN0.out] at EW
                  clear st yt bt D12 D7 V3 D3 I3 KB7 n0
                  go_wp2_with (refine wpList_load_mid rfl 23 (.tmp 19) rfl kb 0 rfl ((A.be16 N0).map b8) _ I8.out u_a16 rfl (info_n info_a16 (A.be16 N0) (A.be16_ok N0).1) ?_)
                  refine Calls.mono EW.out ?_
                  rintro e w13 ⟨rfl, hb13⟩
                  have X13 : Hid (Blk w13 w.heap.size (i0.map b8)) := XO.out.up hb13 XO.out.lt
                  have P13 : Hid (Blk w13 (w.heap.size + 1) (l.map b8)) := XP.out.up hb13 XP.out.lt
                  have D13 : Hid (Below w.heap.size w w13) := XW.out.trans (hb13.mono XW.out.size)
                  have PQ : Hid ((PB q).length = 16) := (PO.out q).1
                  have T13 : Hid (w13.there (w.heap.size + 1) 0 ((PB q).map b8).length) := P13.out.there (by rw [List.length_map, List.length_map, PQ.out, LL.out.1]; omega)
                  clear hb13 XO XP XW EW I8
                  go_wp2_with (refine wp_store_eq rfl 23 (.tmp 11) (.tmp 79) rfl (w.heap.size + 1) 0 ((PB q).map b8) rfl rfl T13.out (info_n info_a16 (PB q) PQ.out) (one_b8 _) ?_)
                  intro w20 hw20
                  have Z0 : Hid (Blk w20 w.heap.size (i0.map b8)) := by rw [hw20.out]; exact X13.out.apart (by omega)
                  have Z1 : Hid (Blk w20 (w.heap.size + 1) ((PB q).map b8)) := by rw [hw20.out]; exact P13.out.put (by rw [List.length_map, List.length_map, PQ.out, LL.out.1])
                  have Z2 : Hid (Below w.heap.size w w20) := by rw [hw20.out]; exact below_setCells _ _ _ D13.out (by omega)
                  clear hw20 T13 P13 X13 D13 X0 X1 X2 LL PQ
                  go_wp2_with fail
                  have C20 : Hid (∀ W, Below w20.heap.size w20 W → W.cell? ⟨w.heap.size + 1, rr, none⟩ = some (b8 ((PB q).getD rr 0))) := fun W hW => (Z1.out.up hW Z1.out.lt).byte rr (by rw [(PO.out q).1]; exact QL.out.2)
                  have I20 : Hid (∀ W, (Instr.index 9 (.string T) (.int .i64 (j : Int))).run Try.prog W = .ok (b8 (p.getD j 0)) W) := fun W => by
                    have h := J1.out
                    have := run_idxS T j (by omega) .i64 W
                    rw [PG.out j (by omega)] at this
                    exact this
                  have xe := g_xor (PL.out j) ((PO.out q).at rr)
                  have r16 : (rr : Int) < 16 := by have := QL.out; omega
                  have PF : Hid (0 < j + 1 → PB q = PB q) := fun _ => rfl
                  have PQ : Hid ((PB q).length = 16) := (PO.out q).1
                  generalize p.getD j 0 ^^^ (PB q).getD rr 0 = x at *
                  generalize p.getD j 0 = pj at *
                  generalize (PB q).getD rr 0 = sj at *
                  have SA : Hid (sOf (S j) ++ sOf [x] = sOf (S (j + 1))) := by rw [SE.out, sOf_append]; exact rfl
                  have sa : (sOf (S j)).size = j := by rw [sOf_size, SL.out j (Nat.le_of_lt J1.out)]
                  have sb : (sOf [x]).size = 1 := by rw [sOf_size]; rfl
                  have HN := HP.out
                  have JN := J1.out
                  generalize sOf (S j) = ua at *
                  obtain ⟨ub, hub⟩ : ∃ ub, ub = sOf (S (j + 1)) := ⟨_, rfl⟩
                  rw [← hub] at SA
                  have UB : Hid (ub = sOf (S (j + 1))) := hub
                  clear hub
                  obtain ⟨uc, huc⟩ : ∃ uc, uc = sOf [x] := ⟨_, rfl⟩
                  rw [← huc] at SA sb
                  have UC : Hid (uc = sOf [x]) := huc
                  clear huc
                  have hlim : ¬ 9223372036854775807 < j + 1 := by omega
                  refine wp_region_monoE [MP.eq (.string ua), MP.eq (.string T), MP.eq (.int .i64 (j : Int)), MP.eq (b8 pj), MP.eq (.int .u64 (P0 : Int)), MP.eq (.int .u64 (rr : Int)), MP.eq (.pointer (some ⟨w.heap.size + 1, rr, none⟩)), MP.eq (b8 sj), MP.eq (b8 x), MP.byA [x], MP.eq (.string uc), MP.eq (.string ub), MP.eq (.string ub)] (by kernel_rfl) (by kernel_rfl) rfl ?_
                  apply Exists.intro
                  refine ⟨fun vals => ?_, ?_, fun vals7 w7 hb7 hF => ?_⟩
                  · simp only [putsV, dstL, List.length_cons, List.length_nil, Nat.zero_add, Nat.reduceAdd, List.getElem?_cons_zero, List.getElem?_cons_succ, Option.bind_some, Act.put, List.setIfInBounds_toArray, List.set_cons_succ, List.set_cons_zero]
                    rfl
                  · refine ⟨?_, ?_, ?_, ?_, ?_, ?_, ?_, ?_, ?_, ?_, ?_, ?_, ?_, trivial⟩
                    · intro vals W hW hw hd
                      try simp [Region.binds] at hd
                      refine ⟨by first | rfl | simp [Region.wanted, yielded, hd], ?_⟩
                      have h3 : vals 12 = .string ua := (hw.out 12 (by kernel_rfl)).trans rfl
                      simp [go_sem, h3]
                      exact Below.refl _ _
                    · intro vals W hW hw hd
                      try simp [Region.binds] at hd
                      refine ⟨by first | rfl | simp [Region.wanted, yielded, hd], ?_⟩
                      simp [go_sem, hd]
                      exact Below.refl _ _
                    · intro vals W hW hw hd
                      try simp [Region.binds] at hd
                      refine ⟨by first | rfl | simp [Region.wanted, yielded, hd], ?_⟩
                      simp [go_sem, hd]
                      exact Below.refl _ _
                    · intro vals W hW hw hd
                      try simp [Region.binds] at hd
                      refine ⟨by first | rfl | simp [Region.wanted, yielded, hd], ?_⟩
                      have cc := I20.out W
                      simp [go_sem, hd, cc]
                      exact Below.refl _ _
                    · intro vals W hW hw hd
                      try simp [Region.binds] at hd
                      refine ⟨by first | rfl | simp [Region.wanted, yielded, hd], ?_⟩
                      simp [go_sem, hd]
                      exact Below.refl _ _
                    · intro vals W hW hw hd
                      try simp [Region.binds] at hd
                      refine ⟨by first | rfl | simp [Region.wanted, yielded, hd], ?_⟩
                      simp [go_sem, hd, m1, m2]
                      exact Below.refl _ _
                    · intro vals W hW hw hd
                      try simp [Region.binds] at hd
                      refine ⟨by first | rfl | simp [Region.wanted, yielded, hd], ?_⟩
                      simp [go_sem, hd, r16]
                      exact Below.refl _ _
                    · intro vals W hW hw hd
                      try simp [Region.binds] at hd
                      refine ⟨by first | rfl | simp [Region.wanted, yielded, hd], ?_⟩
                      have cc := C20.out W hW.out
                      simp [go_sem, hd, cc]
                      exact Below.refl _ _
                    · intro vals W hW hw hd
                      try simp [Region.binds] at hd
                      refine ⟨by first | rfl | simp [Region.wanted, yielded, hd], ?_⟩
                      simp [go_sem, hd, xe]
                      exact Below.refl _ _
                    · intro vals W hW hw hd
                      try simp [Region.binds] at hd
                      refine ⟨by first | rfl | simp [Region.wanted, yielded, hd], ?_⟩
                      exact yields_byA x rfl (by simpa using hd)
                    · intro vals W hW hw hd
                      try simp [Region.binds] at hd
                      refine ⟨by first | rfl | simp [Region.wanted, yielded, hd], ?_⟩
                      exact yields_convA (.tmp 89) rfl _ [x] rfl hd (by rw [UC.out]; rfl)
                    · intro vals W hW hw hd
                      try simp [Region.binds] at hd
                      refine ⟨by first | rfl | simp [Region.wanted, yielded, hd], ?_⟩
                      simp [go_sem, hd, sa, sb, SA.out, hlim]
                      exact Below.refl _ _
                    · intro vals W hW hw hd
                      try simp [Region.binds] at hd
                      refine ⟨by first | rfl | simp [Region.wanted, yielded, hd], ?_⟩
                      simp [go_sem, hd]
                      exact Below.refl _ _
                  obtain ⟨f0, f1, f2, f3, f4, f5, f6, f7, f8, f9, f10, f11, f12, _⟩ := hF
                  simp only [MP.eq_p] at f0 f1 f2 f3 f4 f5 f6 f7 f8 f10 f11 f12
                  rw [f0, f1, f2, f3, f4, f5, f6, f7, f8, f10, f11, f12]
                  generalize vals7 9 = x9
                  have Y0 : Hid (Blk w7 w.heap.size (i0.map b8)) := Z0.out.up hb7.out Z0.out.lt
                  have Y1 : Hid (Blk w7 (w.heap.size + 1) ((PB q).map b8)) := Z1.out.up hb7.out Z1.out.lt
                  have Y2 : Hid (Below w.heap.size w w7) := Z2.out.trans (hb7.out.mono Z2.out.size)
                  clear f0 f1 f2 f3 f4 f5 f6 f7 f8 f9 f10 f11 f12 hb7 Z0 Z1 Z2 C20 I20
                  go_wp2_with fail
                  go_roundw
                  case rel => exact ⟨j + 1, q, PB q, J1.out, by first | rfl | go_num, by rw [UB.out], rfl, ⟨PQ.out, PF.out⟩, Y0, Y1, Y2⟩
                  case measure => have := J1.out; simp [intOf]; omega
        · have z0 : ((j : Int) == 0) = false := by simp [h0]
          have z1 : ((q : Int) != (hq : Int)) = true := by simp; omega
          clear hcase
          go_wp2_with fail
          refine Calls.mono (DG.out _ _ ?_) ?_
          · intro t ht
            obtain rfl : t = 0 := by omega
            simp
          rintro e w2 ⟨⟨v2, rfl, s2⟩, hb2⟩
          obtain ⟨y0, y1⟩ := al1 wr #[.int .u64 (q : Int)] 24
          have D2 : Hid (Below wr.heap.size wr w2) := by
            first
            | exact y1.trans (hb2.mono (by simp))
            | exact (al1 wr _ _).2.trans (hb2.mono (by simp))
          have N2 : Hid _ := plus_n q 0 (small_n (by have := QL.out; omega)) (by decide) v2 (.slice none 0 0) w2 s2 (by rw [P.dg_zero]; exact sl_nil w2)
          clear hb2 s2 y0 y1 DG
          go_wp2_with fail
          refine Calls.mono N2.out ?_
          rintro e w3 ⟨⟨v3, rfl, s3⟩, hb3⟩
          rw [Nat.add_zero] at s3
          have V3 : Hid (Sl w3 v3 (P.dg q)) := s3
          have D3 : Hid (Below wr.heap.size wr w3) := D2.out.trans (hb3.mono D2.out.size)
          have I3 : Hid (w3.rangeAt w.heap.size 0 (i0.map b8)) := (X0.out.up D3.out X0.out.lt).all
          clear N2 D2 hb3 s3
          have T3 : Hid (Sl w3 (.slice none 0 0) (P.dg (BV 0))) := by rw [B0.out, P.dg_zero]; exact sl_nil w3
          go_wp2_with (refine wpList_load_mid rfl 23 (.tmp 5) rfl w.heap.size 0 rfl (i0.map b8) _ I3.out u_a16 rfl (info_n info_a16 i0 HI.out) ?_)
          go_loopw [46, 16] (fun i s wx => ∃ (t : Nat) (sv : Value), t ≤ 16 ∧ i = .int .i64 (t : Int) ∧ sv = s ∧ Hid (Sl wx sv (P.dg (BV t))) ∧ Hid (Below w3.heap.size w3 wx)) (fun i _ _ => 16 - (intOf i).toNat)
          case atStart => exact ⟨0, _, by omega, rfl, rfl, T3, Below.refl _ _⟩
          case round =>
            clear T3
            obtain ⟨t, sv, ht, rfl, rfl, st, bt⟩ := hrel
            by_cases ht1 : t < 16
            · have t1 : (t : Int) < 16 := by omega
              have wt : IntKind.i64.wrap ((t : Int) + 1) = (t : Int) + 1 := by rw [IntKind.wrap_i64]; omega
              have T1 : Hid (t < 16) := ht1
              have BN : Hid (BV t < 2 ^ 128 ∧ BV (t + 1) = BV t * 256 + i0.getD t 0 ∧ i0.getD t 0 < 256) := ⟨BL.out t (by omega), BS.out t ht1, IL.out t⟩
              obtain ⟨X, hX⟩ : ∃ X, X = BV t := ⟨_, rfl⟩
              obtain ⟨Y, hY⟩ : ∃ Y, i0.getD t 0 = Y := ⟨_, rfl⟩
              have HY : Hid (i0.getD t 0 = Y) := hY
              rw [hY, ← hX] at BN
              rw [← hX] at st
              have w8 : IntKind.i64.wrap (Y : Int) = (Y : Int) := by have := BN.out; rw [IntKind.wrap_i64]; omega
              have XS : Hid (X < 65536 ^ 64 ∧ X * 256 < 65536 ^ 64) := ⟨small_n (Nat.lt_trans BN.out.1 (by decide)), small_n (by have := BN.out.1; omega)⟩
              have TM : Hid (∀ k W, Below wr.heap.size wr W → W.cell? ⟨k, 0, none⟩ = some (.int .i64 256) → Calls Try.prog 30 #[sv, .slice (some ⟨k, 0, none⟩) 1 1] W fun e w' => (∃ v', e = .returned v' ∧ Sl w' v' (P.dg (X * 256))) ∧ Below W.heap.size W w') := fun k W hW hk => by
                have := dtimes_fun sv _ (P.dg X) [256] (P.dg_Dg X) (dig_one (by decide)).1 (Nat.lt_trans (dshort XS.out.1) (by decide)) (by decide) W (st.out.up hW) (sl_one hk)
                rwa [P.dv_dg, (dig_one (by decide)).2] at this
              have PM : Hid (∀ v k W, Sl W v (P.dg (X * 256)) → W.cell? ⟨k, 0, none⟩ = some (.int .i64 (Y : Int)) → Calls Try.prog 28 #[v, .slice (some ⟨k, 0, none⟩) 1 1] W fun e w' => (∃ v', e = .returned v' ∧ Sl w' v' (P.dg (X * 256 + Y))) ∧ Below W.heap.size W w') := fun v k W hv hk => by
                have hY := BN.out.2.2
                have := dplus_fun v _ (P.dg (X * 256)) [Y] (P.dg_Dg _) (dig_one (by omega)).1 (Nat.lt_trans (dshort XS.out.2) (by decide)) (by simp) W hv (sl_one hk)
                rwa [P.dv_dg, (dig_one (by omega)).2] at this
              have BX : Hid (BV (t + 1) = X * 256 + Y) := BN.out.2.1
              clear hX hY ht ht1 BN XS
              go_wp2_with (refine wp_idxB rfl u_a16 (.tmp 45) (.tmp 46) rfl i0 HI.out t .i64 T1.out rfl rfl Y HY.out ?_)
              refine Calls.mono (TM.out _ _ (al1 wr _ _).2 (by simp)) ?_
              rintro e w5 ⟨⟨v5, rfl, s5⟩, hb5⟩
              have D5 : Hid (Below wr.heap.size wr w5) := (al1 wr _ _).2.trans (hb5.mono (by simp))
              have V5 : Hid (Sl w5 v5 (P.dg (X * 256))) := s5
              clear s5 hb5 TM
              go_wp2_with fail
              refine Calls.mono (PM.out v5 _ _ (V5.out.up (al1 w5 _ _).2) (by simp)) ?_
              rintro e w6 ⟨⟨v6, rfl, s6⟩, hb6⟩
              have D6 : Hid (Below w5.heap.size w5 w6) := (al1 w5 _ _).2.trans (hb6.mono (by simp))
              have D7 : Hid (Below w3.heap.size w3 w6) := bt.out.trans ((D5.out.trans (D6.out.mono D5.out.size)).mono bt.out.size)
              have V6 : Hid (Sl w6 v6 (P.dg (BV (t + 1)))) := by rw [BX.out]; exact s6
              clear s6 hb6 PM V5 D5 D6 BX
              go_wp2_with fail
              go_roundw
              case rel => exact ⟨t + 1, v6, T1.out, by first | rfl | go_num, rfl, V6, D7⟩
              case measure => have := T1.out; simp [intOf]; omega
            · obtain rfl : t = 16 := by omega
              clear ht ht1
              have QB : Hid (BV 16 < 2 ^ 128 ∧ q < 2 ^ 128) := ⟨BL.out 16 (by omega), by have := QL.out; omega⟩
              have N1 : Hid _ := plus_n (BV 16) q (small_n (Nat.lt_trans QB.out.1 (by decide))) (small_n (Nat.lt_trans QB.out.2 (by decide))) sv v3 wr st.out (V3.out.up bt.out)
              obtain ⟨M, hM⟩ : ∃ M, M = BV 16 + q := ⟨_, rfl⟩
              rw [← hM] at N1
              have MB : Hid (M < 2 ^ 129) := by have := QB.out; show _ < _; omega
              have HM : Hid (M = BV 16 + q) := hM
              clear hM st QB
              go_wp2_with fail
              refine Calls.mono N1.out ?_
              rintro e w5 ⟨⟨v5, rfl, s5⟩, hb5⟩
              have V5 : Hid (Sl w5 v5 (P.dg M)) := s5
              have D5 : Hid (Below w3.heap.size w3 w5) := bt.out.trans (hb5.mono bt.out.size)
              have N2 : Hid _ := twoTo_n 128 (by decide) w5
              clear s5 hb5 bt N1
              go_wp2_with fail
              refine Calls.mono N2.out ?_
              rintro e w6 ⟨⟨v6, rfl, s6⟩, hb6⟩
              have N3 : Hid _ := rest_n M (2 ^ 128) (small_n (Nat.lt_trans MB.out (by decide))) (by decide) (by decide) v5 v6 w6 (V5.out.up hb6) s6
              have D6 : Hid (Below w3.heap.size w3 w6) := D5.out.trans (hb6.mono D5.out.size)
              clear s6 hb6 V5 D5 N2
              obtain ⟨N0, hN0⟩ : ∃ N0, N0 = M % 2 ^ 128 := ⟨_, rfl⟩
              rw [← hN0] at N3
              have HN0 : Hid (N0 = (BV 16 + q) % 2 ^ 128) := by rw [hN0, HM.out]; exact rfl
              clear hN0 HM MB
              go_wp2_with fail
              refine Calls.mono N3.out ?_
              rintro e w7 ⟨⟨v7, rfl, s7⟩, hb7⟩
              have D7 : Hid (Below w3.heap.size w3 w7) := D6.out.trans (hb7.mono D6.out.size)
              have V7 : Hid (Sl w7 v7 (P.dg N0)) := s7
              clear s7 hb7 D6 N3
              obtain ⟨y0, y1⟩ := al1 w7 #[Value.int IntKind.u8 0, Value.int IntKind.u8 0, Value.int IntKind.u8 0, Value.int IntKind.u8 0, Value.int IntKind.u8 0, Value.int IntKind.u8 0, Value.int IntKind.u8 0, Value.int IntKind.u8 0, Value.int IntKind.u8 0, Value.int IntKind.u8 0, Value.int IntKind.u8 0, Value.int IntKind.u8 0, Value.int IntKind.u8 0, Value.int IntKind.u8 0, Value.int IntKind.u8 0, Value.int IntKind.u8 0] 23
              have Y0 : Hid (Blk (w7.alloc (.cells #[Value.int IntKind.u8 0, Value.int IntKind.u8 0, Value.int IntKind.u8 0, Value.int IntKind.u8 0, Value.int IntKind.u8 0, Value.int IntKind.u8 0, Value.int IntKind.u8 0, Value.int IntKind.u8 0, Value.int IntKind.u8 0, Value.int IntKind.u8 0, Value.int IntKind.u8 0, Value.int IntKind.u8 0, Value.int IntKind.u8 0, Value.int IntKind.u8 0, Value.int IntKind.u8 0, Value.int IntKind.u8 0] 23)) w7.heap.size ((A.lastT N0 0).map b8)) := by rw [A.lastT_zero]; exact y0
              have Y1 : Hid (Below w7.heap.size w7 _) := y1
              have V8 : Hid (Sl (w7.alloc (.cells #[Value.int IntKind.u8 0, Value.int IntKind.u8 0, Value.int IntKind.u8 0, Value.int IntKind.u8 0, Value.int IntKind.u8 0, Value.int IntKind.u8 0, Value.int IntKind.u8 0, Value.int IntKind.u8 0, Value.int IntKind.u8 0, Value.int IntKind.u8 0, Value.int IntKind.u8 0, Value.int IntKind.u8 0, Value.int IntKind.u8 0, Value.int IntKind.u8 0, Value.int IntKind.u8 0, Value.int IntKind.u8 0] 23)) v7 (P.dg (N0 / 256 ^ 0))) := by rw [Nat.pow_zero, Nat.div_one]; exact V7.out.up y1
              clear y0 y1 V7
              go_wp2_with (first | simp only [zero_a16])
              generalize w7.alloc _ = w8 at *
              obtain ⟨kb, hkb⟩ : ∃ kb, kb = w7.heap.size := ⟨_, rfl⟩
              rw [← hkb] at Y0 ⊢
              have KB7 : Hid (kb = w7.heap.size) := hkb
              clear hkb
              go_loopw [20, 16] (fun i s wx => ∃ (t : Nat) (sv : Value), t ≤ 16 ∧ i = .int .i64 (15 - (t : Int)) ∧ sv = s ∧ Hid (Sl wx sv (P.dg (N0 / 256 ^ t))) ∧ Hid (Blk wx kb ((A.lastT N0 t).map b8)) ∧ Hid (Below w7.heap.size w7 wx)) (fun i _ _ => (intOf i + 1).toNat)
              case atStart => exact ⟨0, _, by omega, rfl, rfl, V8, Y0, Y1⟩
              case round =>
                clear V8 Y0 Y1
                obtain ⟨t, sv, ht, rfl, rfl, st, yt, bt⟩ := hrel
                by_cases ht1 : t < 16
                · obtain ⟨u, hu⟩ : ∃ u, u = 15 - t := ⟨_, rfl⟩
                  have eu : (15 : Int) - (t : Int) = (u : Int) := by omega
                  rw [eu]
                  have u0 : (0 : Int) ≤ (u : Int) := by omega
                  have u1 : (u : Int) < 16 := by omega
                  have wu : IntKind.i64.wrap ((u : Int) - 1) = (u : Int) - 1 := by rw [IntKind.wrap_i64]; omega
                  have UT : Hid (u + t = 15) := by show _ = _; omega
                  obtain ⟨L, hL⟩ : ∃ L, L = N0 / 256 ^ t := ⟨_, rfl⟩
                  have NX : Hid (N0 / 256 ^ (t + 1) = L / 256) := by rw [hL, Nat.pow_succ, Nat.div_div_eq_div_mul]; exact rfl
                  have SE : Hid ((A.lastT N0 t).set u (L % 256) = A.lastT N0 (t + 1)) := by rw [hu, hL]; exact A.lastT_set ht1
                  rw [← hL] at st
                  have LB : Hid (L < 65536 ^ 64) := by
                    rw [hL]
                    refine small_n (Nat.lt_of_le_of_lt (Nat.div_le_self _ _) ?_)
                    rw [HN0.out]
                    exact Nat.lt_of_lt_of_le (Nat.mod_lt _ (by decide)) (by decide)
                  have PT : Hid (∀ k W, Below wr.heap.size wr W → W.cell? ⟨k, 0, none⟩ = some (.int .i64 256) → Calls Try.prog 33 #[sv, .slice (some ⟨k, 0, none⟩) 1 1] W fun e w' => (∃ v1 v2, e = .returned (.tuple #[v1, v2]) ∧ Sl w' v1 (P.dg (L / 256)) ∧ Sl w' v2 (P.dg (L % 256))) ∧ Below W.heap.size W w') := fun k W hW hk => by
                    have := dparts_fun sv _ (P.dg L) [256] (P.dg_Dg L) (dig_one (by decide)).1 (by rw [(dig_one (by decide)).2]; decide) (dshort LB.out) (by decide) W (st.out.up hW) (sl_one hk)
                    rwa [P.dv_dg, (dig_one (by decide)).2] at this
                  obtain ⟨z, hzz⟩ : ∃ z, z = L % 256 := ⟨_, rfl⟩
                  have z8 : IntKind.u8.wrap (z : Int) = (z : Int) := by rw [IntKind.wrap_u8]; omega
                  have DGT : Hid (∀ v W, Sl W v (P.dg z) → Calls Try.prog 34 #[v, .int .i64 0] W fun e w' => e = .returned (.int .i64 (z : Int)) ∧ Below W.heap.size W w') := fun v W hv => by
                    have := digit_fun v (P.dg z) 0 W hv
                    rwa [dg_low (by omega)] at this
                  rw [← hzz] at PT SE
                  have T1 : Hid (t < 16) := ht1
                  clear hL hzz hu ht ht1 LB
                  go_wp2_with fail
                  refine Calls.mono (PT.out _ _ (al1 wr _ _).2 (by simp)) ?_
                  rintro e w9 ⟨⟨v9, v10, rfl, s9, s10⟩, hb9⟩
                  have D9 : Hid (Below wr.heap.size wr w9) := (al1 wr _ _).2.trans (hb9.mono (by simp))
                  have V9 : Hid (Sl w9 v9 (P.dg (L / 256))) := s9
                  have N9 : Hid _ := DGT.out v10 w9 s10
                  clear s9 s10 hb9 PT DGT st
                  go_wp2_with fail
                  refine Calls.mono N9.out ?_
                  rintro e w10 ⟨rfl, hb10⟩
                  have D10 : Hid (Below wr.heap.size wr w10) := D9.out.trans (hb10.mono D9.out.size)
                  have Y10 : Hid (Blk w10 kb ((A.lastT N0 t).map b8)) := yt.out.up D10.out yt.out.lt
                  have V10 : Hid (Sl w10 v9 (P.dg (L / 256))) := V9.out.up hb10
                  have c10 := Y10.out.byte u (by rw [A.lastT_length]; have := UT.out; omega)
                  have f10 := Y10.out.fz u
                  have Y11 : Hid _ := Y10.out.setB u z (by rw [A.lastT_length]; have := UT.out; omega)
                  rw [SE.out] at Y11
                  have V11 : Hid (Sl (w10.setCell ⟨kb, u, none⟩ (b8 z)) v9 (P.dg (N0 / 256 ^ (t + 1)))) := by rw [NX.out]; exact sl_set_byte V10.out c10 (b8 z)
                  have D11 : Hid _ := (bt.out.trans (D10.out.mono bt.out.size)).setCell (p := ⟨kb, u, none⟩) (by rw [KB7.out]; exact Nat.le_refl _) (b8 z)
                  clear hb10 D10 Y10 V10 V9 D9 N9 yt bt NX SE eu
                  go_wp2_with fail
                  go_roundw
                  case rel =>
                    have h := UT.out
                    have e : (u : Int) - 1 = 15 - ((t + 1 : Nat) : Int) := by omega
                    rw [e]
                    exact ⟨t + 1, v9, T1.out, rfl, rfl, V11, Y11, D11⟩
                  case measure => first | (simp [intOf]; done) | (have := UT.out; simp [intOf]; omega)
                · obtain rfl : t = 16 := by omega
                  clear ht ht1
                  rw [A.lastT_all] at yt
                  have n0 : ¬ (0 : Int) ≤ 15 - ((16 : Nat) : Int) := by omega
                  have I8 : Hid (wr.rangeAt kb 0 ((A.be16 N0).map b8)) := yt.out.all
                  have D12 : Hid (Below w3.heap.size w3 wr) := D7.out.trans (bt.out.mono D7.out.size)
                  have XO : Hid (Blk wr w.heap.size (i0.map b8)) := X0.out.up (D3.out.trans (D12.out.mono D3.out.size)) X0.out.lt
                  have XP : Hid (Blk wr (w.heap.size + 1) (l.map b8)) := X1.out.up (D3.out.trans (D12.out.mono D3.out.size)) X1.out.lt
                  have XW : Hid (Below w.heap.size w wr) := X2.out.trans ((D3.out.trans (D12.out.mono D3.out.size)).mono X2.out.size)
                  have EW : Hid _ := EN.out q wr XW.out
                  rw [← HN0.out] at EW
                  clear st yt bt D12 D7 V3 D3 I3 KB7 n0
                  go_wp2_with (refine wpList_load_mid rfl 23 (.tmp 19) rfl kb 0 rfl ((A.be16 N0).map b8) _ I8.out u_a16 rfl (info_n info_a16 (A.be16 N0) (A.be16_ok N0).1) ?_)
                  refine Calls.mono EW.out ?_
                  rintro e w13 ⟨rfl, hb13⟩
                  have X13 : Hid (Blk w13 w.heap.size (i0.map b8)) := XO.out.up hb13 XO.out.lt
                  have P13 : Hid (Blk w13 (w.heap.size + 1) (l.map b8)) := XP.out.up hb13 XP.out.lt
                  have D13 : Hid (Below w.heap.size w w13) := XW.out.trans (hb13.mono XW.out.size)
                  have PQ : Hid ((PB q).length = 16) := (PO.out q).1
                  have T13 : Hid (w13.there (w.heap.size + 1) 0 ((PB q).map b8).length) := P13.out.there (by rw [List.length_map, List.length_map, PQ.out, LL.out.1]; omega)
                  clear hb13 XO XP XW EW I8
                  go_wp2_with (refine wp_store_eq rfl 23 (.tmp 11) (.tmp 79) rfl (w.heap.size + 1) 0 ((PB q).map b8) rfl rfl T13.out (info_n info_a16 (PB q) PQ.out) (one_b8 _) ?_)
                  intro w20 hw20
                  have Z0 : Hid (Blk w20 w.heap.size (i0.map b8)) := by rw [hw20.out]; exact X13.out.apart (by omega)
                  have Z1 : Hid (Blk w20 (w.heap.size + 1) ((PB q).map b8)) := by rw [hw20.out]; exact P13.out.put (by rw [List.length_map, List.length_map, PQ.out, LL.out.1])
                  have Z2 : Hid (Below w.heap.size w w20) := by rw [hw20.out]; exact below_setCells _ _ _ D13.out (by omega)
                  clear hw20 T13 P13 X13 D13 X0 X1 X2 LL PQ
                  go_wp2_with fail
                  have C20 : Hid (∀ W, Below w20.heap.size w20 W → W.cell? ⟨w.heap.size + 1, rr, none⟩ = some (b8 ((PB q).getD rr 0))) := fun W hW => (Z1.out.up hW Z1.out.lt).byte rr (by rw [(PO.out q).1]; exact QL.out.2)
                  have I20 : Hid (∀ W, (Instr.index 9 (.string T) (.int .i64 (j : Int))).run Try.prog W = .ok (b8 (p.getD j 0)) W) := fun W => by
                    have h := J1.out
                    have := run_idxS T j (by omega) .i64 W
                    rw [PG.out j (by omega)] at this
                    exact this
                  have xe := g_xor (PL.out j) ((PO.out q).at rr)
                  have r16 : (rr : Int) < 16 := by have := QL.out; omega
                  have PF : Hid (0 < j + 1 → PB q = PB q) := fun _ => rfl
                  have PQ : Hid ((PB q).length = 16) := (PO.out q).1
                  generalize p.getD j 0 ^^^ (PB q).getD rr 0 = x at *
                  generalize p.getD j 0 = pj at *
                  generalize (PB q).getD rr 0 = sj at *
                  have SA : Hid (sOf (S j) ++ sOf [x] = sOf (S (j + 1))) := by rw [SE.out, sOf_append]; exact rfl
                  have sa : (sOf (S j)).size = j := by rw [sOf_size, SL.out j (Nat.le_of_lt J1.out)]
                  have sb : (sOf [x]).size = 1 := by rw [sOf_size]; rfl
                  have HN := HP.out
                  have JN := J1.out
                  generalize sOf (S j) = ua at *
                  obtain ⟨ub, hub⟩ : ∃ ub, ub = sOf (S (j + 1)) := ⟨_, rfl⟩
                  rw [← hub] at SA
                  have UB : Hid (ub = sOf (S (j + 1))) := hub
                  clear hub
                  obtain ⟨uc, huc⟩ : ∃ uc, uc = sOf [x] := ⟨_, rfl⟩
                  rw [← huc] at SA sb
                  have UC : Hid (uc = sOf [x]) := huc
                  clear huc
                  have hlim : ¬ 9223372036854775807 < j + 1 := by omega
                  refine wp_region_monoE [MP.eq (.string ua), MP.eq (.string T), MP.eq (.int .i64 (j : Int)), MP.eq (b8 pj), MP.eq (.int .u64 (P0 : Int)), MP.eq (.int .u64 (rr : Int)), MP.eq (.pointer (some ⟨w.heap.size + 1, rr, none⟩)), MP.eq (b8 sj), MP.eq (b8 x), MP.byA [x], MP.eq (.string uc), MP.eq (.string ub), MP.eq (.string ub)] (by kernel_rfl) (by kernel_rfl) rfl ?_
                  apply Exists.intro
                  refine ⟨fun vals => ?_, ?_, fun vals7 w7 hb7 hF => ?_⟩
                  · simp only [putsV, dstL, List.length_cons, List.length_nil, Nat.zero_add, Nat.reduceAdd, List.getElem?_cons_zero, List.getElem?_cons_succ, Option.bind_some, Act.put, List.setIfInBounds_toArray, List.set_cons_succ, List.set_cons_zero]
                    rfl
                  · refine ⟨?_, ?_, ?_, ?_, ?_, ?_, ?_, ?_, ?_, ?_, ?_, ?_, ?_, trivial⟩
                    · intro vals W hW hw hd
                      try simp [Region.binds] at hd
                      refine ⟨by first | rfl | simp [Region.wanted, yielded, hd], ?_⟩
                      have h3 : vals 12 = .string ua := (hw.out 12 (by kernel_rfl)).trans rfl
                      simp [go_sem, h3]
                      exact Below.refl _ _
                    · intro vals W hW hw hd
                      try simp [Region.binds] at hd
                      refine ⟨by first | rfl | simp [Region.wanted, yielded, hd], ?_⟩
                      simp [go_sem, hd]
                      exact Below.refl _ _
                    · intro vals W hW hw hd
                      try simp [Region.binds] at hd
                      refine ⟨by first | rfl | simp [Region.wanted, yielded, hd], ?_⟩
                      simp [go_sem, hd]
                      exact Below.refl _ _
                    · intro vals W hW hw hd
                      try simp [Region.binds] at hd
                      refine ⟨by first | rfl | simp [Region.wanted, yielded, hd], ?_⟩
                      have cc := I20.out W
                      simp [go_sem, hd, cc]
                      exact Below.refl _ _
                    · intro vals W hW hw hd
                      try simp [Region.binds] at hd
                      refine ⟨by first | rfl | simp [Region.wanted, yielded, hd], ?_⟩
                      simp [go_sem, hd]
                      exact Below.refl _ _
                    · intro vals W hW hw hd
                      try simp [Region.binds] at hd
                      refine ⟨by first | rfl | simp [Region.wanted, yielded, hd], ?_⟩
                      simp [go_sem, hd, m1, m2]
                      exact Below.refl _ _
                    · intro vals W hW hw hd
                      try simp [Region.binds] at hd
                      refine ⟨by first | rfl | simp [Region.wanted, yielded, hd], ?_⟩
                      simp [go_sem, hd, r16]
                      exact Below.refl _ _
                    · intro vals W hW hw hd
                      try simp [Region.binds] at hd
                      refine ⟨by first | rfl | simp [Region.wanted, yielded, hd], ?_⟩
                      have cc := C20.out W hW.out
                      simp [go_sem, hd, cc]
                      exact Below.refl _ _
                    · intro vals W hW hw hd
                      try simp [Region.binds] at hd
                      refine ⟨by first | rfl | simp [Region.wanted, yielded, hd], ?_⟩
                      simp [go_sem, hd, xe]
                      exact Below.refl _ _
                    · intro vals W hW hw hd
                      try simp [Region.binds] at hd
                      refine ⟨by first | rfl | simp [Region.wanted, yielded, hd], ?_⟩
                      exact yields_byA x rfl (by simpa using hd)
                    · intro vals W hW hw hd
                      try simp [Region.binds] at hd
                      refine ⟨by first | rfl | simp [Region.wanted, yielded, hd], ?_⟩
                      exact yields_convA (.tmp 89) rfl _ [x] rfl hd (by rw [UC.out]; rfl)
                    · intro vals W hW hw hd
                      try simp [Region.binds] at hd
                      refine ⟨by first | rfl | simp [Region.wanted, yielded, hd], ?_⟩
                      simp [go_sem, hd, sa, sb, SA.out, hlim]
                      exact Below.refl _ _
                    · intro vals W hW hw hd
                      try simp [Region.binds] at hd
                      refine ⟨by first | rfl | simp [Region.wanted, yielded, hd], ?_⟩
                      simp [go_sem, hd]
                      exact Below.refl _ _
                  obtain ⟨f0, f1, f2, f3, f4, f5, f6, f7, f8, f9, f10, f11, f12, _⟩ := hF
                  simp only [MP.eq_p] at f0 f1 f2 f3 f4 f5 f6 f7 f8 f10 f11 f12
                  rw [f0, f1, f2, f3, f4, f5, f6, f7, f8, f10, f11, f12]
                  generalize vals7 9 = x9
                  have Y0 : Hid (Blk w7 w.heap.size (i0.map b8)) := Z0.out.up hb7.out Z0.out.lt
                  have Y1 : Hid (Blk w7 (w.heap.size + 1) ((PB q).map b8)) := Z1.out.up hb7.out Z1.out.lt
                  have Y2 : Hid (Below w.heap.size w w7) := Z2.out.trans (hb7.out.mono Z2.out.size)
                  clear f0 f1 f2 f3 f4 f5 f6 f7 f8 f9 f10 f11 f12 hb7 Z0 Z1 Z2 C20 I20
                  go_wp2_with fail
                  go_roundw
                  case rel => exact ⟨j + 1, q, PB q, J1.out, by first | rfl | go_num, by rw [UB.out], rfl, ⟨PQ.out, PF.out⟩, Y0, Y1, Y2⟩
                  case measure => have := J1.out; simp [intOf]; omega
      · have h0 : ¬ j = 0 := fun h => hcase (.inl h)
        have hqe : q = hq := Classical.byContradiction fun h => hcase (.inr h)
        have LP : Hid (l = PB hq) := LL.out.2 (by omega)
        subst hqe
        have z0 : ((j : Int) == 0) = false := by simp [h0]
        have Z0 := X0
        have Z1 : Hid (Blk wr (w.heap.size + 1) ((PB q).map b8)) := by rw [← LP.out]; exact X1
        have Z2 := X2
        clear hcase h0 LP LL X0 X1 X2 DG
        go_wp2_with fail
        generalize wr = w20 at *
        have C20 : Hid (∀ W, Below w20.heap.size w20 W → W.cell? ⟨w.heap.size + 1, rr, none⟩ = some (b8 ((PB q).getD rr 0))) := fun W hW => (Z1.out.up hW Z1.out.lt).byte rr (by rw [(PO.out q).1]; exact QL.out.2)
        have I20 : Hid (∀ W, (Instr.index 9 (.string T) (.int .i64 (j : Int))).run Try.prog W = .ok (b8 (p.getD j 0)) W) := fun W => by
          have h := J1.out
          have := run_idxS T j (by omega) .i64 W
          rw [PG.out j (by omega)] at this
          exact this
        have xe := g_xor (PL.out j) ((PO.out q).at rr)
        have r16 : (rr : Int) < 16 := by have := QL.out; omega
        have PF : Hid (0 < j + 1 → PB q = PB q) := fun _ => rfl
        have PQ : Hid ((PB q).length = 16) := (PO.out q).1
        generalize p.getD j 0 ^^^ (PB q).getD rr 0 = x at *
        generalize p.getD j 0 = pj at *
        generalize (PB q).getD rr 0 = sj at *
        have SA : Hid (sOf (S j) ++ sOf [x] = sOf (S (j + 1))) := by rw [SE.out, sOf_append]; exact rfl
        have sa : (sOf (S j)).size = j := by rw [sOf_size, SL.out j (Nat.le_of_lt J1.out)]
        have sb : (sOf [x]).size = 1 := by rw [sOf_size]; rfl
        have HN := HP.out
        have JN := J1.out
        generalize sOf (S j) = ua at *
        obtain ⟨ub, hub⟩ : ∃ ub, ub = sOf (S (j + 1)) := ⟨_, rfl⟩
        rw [← hub] at SA
        have UB : Hid (ub = sOf (S (j + 1))) := hub
        clear hub
        obtain ⟨uc, huc⟩ : ∃ uc, uc = sOf [x] := ⟨_, rfl⟩
        rw [← huc] at SA sb
        have UC : Hid (uc = sOf [x]) := huc
        clear huc
        have hlim : ¬ 9223372036854775807 < j + 1 := by omega
        refine wp_region_monoE [MP.eq (.string ua), MP.eq (.string T), MP.eq (.int .i64 (j : Int)), MP.eq (b8 pj), MP.eq (.int .u64 (P0 : Int)), MP.eq (.int .u64 (rr : Int)), MP.eq (.pointer (some ⟨w.heap.size + 1, rr, none⟩)), MP.eq (b8 sj), MP.eq (b8 x), MP.byA [x], MP.eq (.string uc), MP.eq (.string ub), MP.eq (.string ub)] (by kernel_rfl) (by kernel_rfl) rfl ?_
        apply Exists.intro
        refine ⟨fun vals => ?_, ?_, fun vals7 w7 hb7 hF => ?_⟩
        · simp only [putsV, dstL, List.length_cons, List.length_nil, Nat.zero_add, Nat.reduceAdd, List.getElem?_cons_zero, List.getElem?_cons_succ, Option.bind_some, Act.put, List.setIfInBounds_toArray, List.set_cons_succ, List.set_cons_zero]
          rfl
        · refine ⟨?_, ?_, ?_, ?_, ?_, ?_, ?_, ?_, ?_, ?_, ?_, ?_, ?_, trivial⟩
          · intro vals W hW hw hd
            try simp [Region.binds] at hd
            refine ⟨by first | rfl | simp [Region.wanted, yielded, hd], ?_⟩
            have h3 : vals 12 = .string ua := (hw.out 12 (by kernel_rfl)).trans rfl
            simp [go_sem, h3]
            exact Below.refl _ _
          · intro vals W hW hw hd
            try simp [Region.binds] at hd
            refine ⟨by first | rfl | simp [Region.wanted, yielded, hd], ?_⟩
            simp [go_sem, hd]
            exact Below.refl _ _
          · intro vals W hW hw hd
            try simp [Region.binds] at hd
            refine ⟨by first | rfl | simp [Region.wanted, yielded, hd], ?_⟩
            simp [go_sem, hd]
            exact Below.refl _ _
          · intro vals W hW hw hd
            try simp [Region.binds] at hd
            refine ⟨by first | rfl | simp [Region.wanted, yielded, hd], ?_⟩
            have cc := I20.out W
            simp [go_sem, hd, cc]
            exact Below.refl _ _
          · intro vals W hW hw hd
            try simp [Region.binds] at hd
            refine ⟨by first | rfl | simp [Region.wanted, yielded, hd], ?_⟩
            simp [go_sem, hd]
            exact Below.refl _ _
          · intro vals W hW hw hd
            try simp [Region.binds] at hd
            refine ⟨by first | rfl | simp [Region.wanted, yielded, hd], ?_⟩
            simp [go_sem, hd, m1, m2]
            exact Below.refl _ _
          · intro vals W hW hw hd
            try simp [Region.binds] at hd
            refine ⟨by first | rfl | simp [Region.wanted, yielded, hd], ?_⟩
            simp [go_sem, hd, r16]
            exact Below.refl _ _
          · intro vals W hW hw hd
            try simp [Region.binds] at hd
            refine ⟨by first | rfl | simp [Region.wanted, yielded, hd], ?_⟩
            have cc := C20.out W hW.out
            simp [go_sem, hd, cc]
            exact Below.refl _ _
          · intro vals W hW hw hd
            try simp [Region.binds] at hd
            refine ⟨by first | rfl | simp [Region.wanted, yielded, hd], ?_⟩
            simp [go_sem, hd, xe]
            exact Below.refl _ _
          · intro vals W hW hw hd
            try simp [Region.binds] at hd
            refine ⟨by first | rfl | simp [Region.wanted, yielded, hd], ?_⟩
            exact yields_byA x rfl (by simpa using hd)
          · intro vals W hW hw hd
            try simp [Region.binds] at hd
            refine ⟨by first | rfl | simp [Region.wanted, yielded, hd], ?_⟩
            exact yields_convA (.tmp 89) rfl _ [x] rfl hd (by rw [UC.out]; rfl)
          · intro vals W hW hw hd
            try simp [Region.binds] at hd
            refine ⟨by first | rfl | simp [Region.wanted, yielded, hd], ?_⟩
            simp [go_sem, hd, sa, sb, SA.out, hlim]
            exact Below.refl _ _
          · intro vals W hW hw hd
            try simp [Region.binds] at hd
            refine ⟨by first | rfl | simp [Region.wanted, yielded, hd], ?_⟩
            simp [go_sem, hd]
            exact Below.refl _ _
        obtain ⟨f0, f1, f2, f3, f4, f5, f6, f7, f8, f9, f10, f11, f12, _⟩ := hF
        simp only [MP.eq_p] at f0 f1 f2 f3 f4 f5 f6 f7 f8 f10 f11 f12
        rw [f0, f1, f2, f3, f4, f5, f6, f7, f8, f10, f11, f12]
        generalize vals7 9 = x9
        have Y0 : Hid (Blk w7 w.heap.size (i0.map b8)) := Z0.out.up hb7.out Z0.out.lt
        have Y1 : Hid (Blk w7 (w.heap.size + 1) ((PB q).map b8)) := Z1.out.up hb7.out Z1.out.lt
        have Y2 : Hid (Below w.heap.size w w7) := Z2.out.trans (hb7.out.mono Z2.out.size)
        clear f0 f1 f2 f3 f4 f5 f6 f7 f8 f9 f10 f11 f12 hb7 Z0 Z1 Z2 C20 I20
        go_wp2_with fail
        go_roundw
        case rel => exact ⟨j + 1, q, PB q, J1.out, by first | rfl | go_num, by rw [UB.out], rfl, ⟨PQ.out, PF.out⟩, Y0, Y1, Y2⟩
        case measure => have := J1.out; simp [intOf]; omega
    · obtain rfl : j = n := by omega
      clear hj hj1
      go_wp2_with fail
      go_ret
      exact ⟨rfl, X2.out⟩
end Go.Proofs.Ytmfbdacalenfdaa
