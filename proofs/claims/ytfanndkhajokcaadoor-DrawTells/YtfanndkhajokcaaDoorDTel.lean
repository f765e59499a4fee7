import Derived.Test.YtfanndkhajokcaaDoorGrp40
import Derived.Test.YtfanndkhajokcaaDoorGrp41
import Derived.Test.YtfanndkhajokcaaDoorUpA
import Derived.BigQuiet
/- DrawTells returns true for every seed and every drawings. -/
namespace Go.Proofs.YtfanndkhajokcaaDoor
open Go.RowKit
open Go.BigFrame
open Go.ChangeShapes Go.WideShapes Go.ChangeAt
set_option linter.unusedSimpArgs false
theorem SrcB.both {Src : World → Nat → (Nat → Prop) → List Nat → Nat → Prop} (C : SrcC Src) (B : SrcB Src) {seed : List Nat} {F : Nat → Prop} {k p : Nat} (ls : ∀ x ∈ seed, x < 256) (zs : seed.length ≤ 500000000000000) (x : Nm) (hx : x.ok) (w : World) (hs : Src w k F seed p) (hK : KTab w) (hk : 0 < k) :
    ∃ X ec NN, NN ≤ 3200 ∧ Calls Tryd.prog 9 #[ptr k, N x] w (fun e w' => e = .returned (.tuple #[N X, .int .i64 ec]) ∧ Src w' k F seed ((p + NN) % 18446744073709551616) ∧ Fr w k w') ∧
      ∀ W, RTab W → Calls Tryd.prog 10 #[.string (sOf seed), .int .u64 (p : Int), N x] W (fun e w' => e = .returned (.tuple #[N X, .int .i64 (NN : Int), .int .i64 ec]) ∧ Below W.heap.size W w') := by
  have hp := C.small hs
  rcases Nat.eq_zero_or_pos x.nat with h | h
  · obtain rfl : x = ⟨0, 0, 0, 0⟩ := Nm.ext_nat hx (by constructor <;> simp [Word]) h
    refine ⟨⟨0, 0, 0, 0⟩, 1, 0, by omega, (B.belowZero w hs).mono fun e w' ⟨he, hb⟩ => ⟨he, ?_, (Fr.refl w k).then hb⟩, fun W hT => rbelow_zero _ _ W⟩
    rw [Nat.add_zero, Nat.mod_eq_of_lt hp]
    exact C.up hs hb
  · have hb := B.below x hx x.nat _ rfl h (len_bl h) w hs hK hk
    have hr := fun W hT => rbelow_fun seed ls zs p x hx x.nat _ rfl h (Nm.nat_lt hx) (len_bl h) W hT
    cases hq : belS seed p (lenN (x.nat - 1)) x.nat with
    | none =>
      rw [hq] at hb hr
      exact ⟨⟨0, 0, 0, 0⟩, 6, 3200, by omega, hb, hr⟩
    | some t =>
      rw [hq] at hb hr
      have ht : t < 100 := by
        rw [belS, List.find?_range_eq_some] at hq
        simpa using hq.2.1
      refine ⟨_, 0, 32 * (t + 1), by omega, hb, fun W hT => ?_⟩
      have g := hr W hT
      rw [show ((32 * (t + 1) : Nat) : Int) = 32 * ((t : Int) + 1) by omega]
      exact g
theorem wp_ldNo {ops : Array Oper} {rest : List Oper} {o : Oper} {a : Act} {Q : Exit → Act → World → Prop} {w : World} (hgd : Region.wanted o (yielded ops a.tmps) = true) (x : Operand) (ho : o.op = .load 28 x) (k f : Nat) (hx : a.eval x = .pointer (some ⟨k, f, none⟩))
    (n : Nm) (hr : w.rangeAt k f (nC n)) (h : wpList Tryd.prog ops Q rest (a.put o.dst (N n)) w) : wpList Tryd.prog ops Q (o :: rest) a w := by
  refine wpList_wanted hgd fun K hK => ?_
  exact wp_load_mid 28 x ho k f hx _ _ hr u_num rfl (info_num.trans (congrArg some (by simp [nC]))) (hK _ _ h)
theorem wp_neN {ops : Array Oper} {rest : List Oper} {o : Oper} {a : Act} {Q : Exit → Act → World → Prop} {w : World} (hgd : Region.wanted o (yielded ops a.tmps) = true) (x y : Operand) (u : TypeId)
    (ho : o.op = .binOp .neq 28 x y u) (n : Nm) (hx : a.eval x = N n) (hy : a.eval y = N n) (h : wpList Tryd.prog ops Q rest (a.put o.dst (.bool false)) w) : wpList Tryd.prog ops Q (o :: rest) a w := by
  refine wpList_wanted hgd fun K hK => ?_
  have e := neN n n w
  rw [Nm.beq_self] at e
  unfold Oper.wp
  simp [execOp, ho, hx, hy, e, eqGuard, Result.andThen]
  exact hK _ _ h
theorem one_dw (d : Dw) : ∀ v ∈ dwC d, v.oneCell' = true := by
  intro v hv
  simp only [dwC, List.mem_cons, List.not_mem_nil, or_false] at hv
  rcases hv with rfl | rfl | rfl | rfl | rfl | rfl | rfl <;> rfl
theorem wp_convT {ops : Array Oper} {rest : List Oper} {o : Oper} {a : Act} {Q : Exit → Act → World → Prop} {w : World} (hgd : o.guard = none) (x : Operand)
    (ho : o.op = .convert 22 9 x) (u : Value) (xs : List Nat) (t : ByteArray) (ht : sOf xs = t) (hx : a.eval x = u) (h : By w u xs) (hK : wpList Tryd.prog ops Q rest (a.put o.dst (.string t)) w) : wpList Tryd.prog ops Q (o :: rest) a w := by
  subst ht
  exact wp_conv hgd x ho u xs hx h hK
theorem quiet_conv {ops : Array Oper} {rest : List Oper} {o : Oper} {a : Act} {C : World → Prop} {Q : Act → Prop} (hgd : Region.wanted o (yielded ops a.tmps) = true) (x : Operand) (ho : o.op = .convert 22 9 x) (u : Value) (xs : List Nat) (t : ByteArray) (ht : sOf xs = t) (hx : a.eval x = u) (hy : ∀ w, C w → By w u xs) (h : wpQuiet Tryd.prog ops C Q rest (a.put o.dst (.string t))) : wpQuiet Tryd.prog ops C Q (o :: rest) a := by
  subst ht
  refine wpQuiet_want hgd fun K hK => ⟨.string (sOf xs), fun w hw => ?_, hK _ h⟩
  have e : (execOp a.eval o).run Tryd.prog w = .ok (.value (.string (sOf xs))) w := by
    have e1 := bytes_conv (hy w hw)
    unfold execOp
    simp [ho, hx, e1]
  unfold Oper.quietAt
  rw [e]
  exact ⟨rfl, rfl⟩
theorem u_dw : ∃ fs, Tryd.prog.underlying 30 = some (.struct fs) := ⟨_, Tryd.underlying30⟩
theorem dw_num (d : Dw) : dwC d = [.bool d.skip, .bool d.below, .int .i64 d.n] ++ (nC d.m ++ []) := by simp [dwC, nC]
set_option maxRecDepth 20000 in
set_option maxHeartbeats 4000000 in
theorem drawTells_of {Src : World → Nat → (Nat → Prop) → List Nat → Nat → Prop} (C : SrcC Src) (B : SrcB Src) (v0 : Value) (seed : List Nat) (ls : lowB seed) (zs : seed.length ≤ 140737488351232) (v1 : Value) (l : List Dw) (ok : ∀ d ∈ l, d.ok) (w : World) (h0 : By w v0 seed) (h1 : Dws w v1 l) (hK : KTab w) (hR : RTab w) :
    Calls Tryd.prog 3 #[v0, v1] w fun e w' => e = .returned (.bool true) ∧ Below w.heap.size w w' := by
  obtain ⟨a1, c1', e1, hc1, hd1⟩ := h1
  subst e1
  by_cases c1 : 20 < l.length
  · have c1b : (20 : Int) < (l.length : Int) := by omega
    clear h0 hK hR ls zs C B ok hd1 hc1
    go_enter Tryd.func3, Tryd.ntmps3
    go_wp2_with fail
    go_ret
    exact ⟨rfl, Below.refl _ _⟩
  · have c1b : ¬ (20 : Int) < (l.length : Int) := by omega
    have SC : Hid (SrcC Src) := C
    have NW : Hid _ := C.new seed ls (by omega) v0 w h0 hK
    have KU : Hid (∀ w', Below w.heap.size w w' → KTab w') := fun w' hb => hK.up hb hK.pos
    have RU : Hid (∀ w', Below w.heap.size w w' → RTab w') := fun w' hb => hR.up hb hR.pos
    have BU : Hid (∀ w', Below w.heap.size w w' → By w' v0 seed) := fun w' hb => h0.up hb (Nat.le_refl _)
    have K0 : Hid (0 < w.heap.size) := hK.pos
    have BB : Hid (∀ x : Nm, x.ok → ∀ W k F p, _) := fun x hx W k F p => B.both C (seed := seed) (F := F) (k := k) (p := p) ls (by omega) x hx W
    have DR : Hid _ := fun p (hp : p < 18446744073709551616) n hn => rdrawn_fun seed ls (by omega) p hp n hn
    have DD : Hid (∀ W, Below w.heap.size w W → Dws W (.slice a1 l.length c1') l) := fun W hb => Dws.up ⟨a1, c1', rfl, hc1, hd1⟩ hb
    have OK : Hid (∀ d ∈ l, d.ok) := ok
    have L20 : Hid (l.length ≤ 20) := show l.length ≤ 20 by omega
    clear h0 hK hR ls zs C B ok hd1 hc1 c1
    generalize hus : sOf seed = us at *
    have HU : Hid (sOf seed = us) := hus
    clear hus
    generalize hlen : l.length = len at *
    have HL : Hid (l.length = len) := hlen
    clear hlen
    go_enter Tryd.func3, Tryd.ntmps3
    go_wp2_with fail
    refine Calls.mono NW.out ?_
    rintro e w1 ⟨⟨g, F, rfl, hg, hF, s1⟩, hb1⟩
    have S1 : Hid (Src w1 g F seed 0) := s1
    have D1 : Hid (Below w.heap.size w w1) := hb1
    have HG : Hid (w.heap.size ≤ g ∧ ∀ j, F j → w.heap.size ≤ j) := ⟨hg, hF⟩
    clear hg hF s1 hb1 NW
    go_wp2_with fail
    go_loopw [6, 24] (fun at_ i wr => ∃ j p : Nat, j ≤ len ∧ i = .int .i64 (j : Int) ∧ at_ = .int .u64 (p : Int) ∧ Hid (Src wr g F seed p) ∧ Hid (Below w.heap.size w wr)) (fun _ i _ => len - (intOf i).toNat)
    case atStart => exact ⟨0, 0, by omega, rfl, rfl, S1, D1⟩
    case round =>
      clear S1 D1
      obtain ⟨j, p, hj, rfl, rfl, sr, dr⟩ := hrel
      by_cases hjl : j < len
      · have j1 : (j : Int) < (len : Int) := by omega
        obtain ⟨bb, oo, ea, hcell⟩ : ∃ b o, a1 = some ⟨b, o, none⟩ ∧ ∀ j, j < l.length → wr.rangeAt b (o + j * 7) (dwC (l.getD j dw0)) := by
          obtain ⟨_, _, e, _, h⟩ := DD.out wr dr.out
          cases e
          exact h (by have := HL.out; omega)
        subst ea
        have HC : Hid _ := hcell j (by have := HL.out; omega)
        have OD : Hid (l.getD j dw0).ok := by
          have hm : j < l.length := by have := HL.out; omega
          rw [List.getD_eq_getElem?_getD, List.getElem?_eq_getElem hm]
          exact OK.out _ (List.getElem_mem hm)
        clear hcell
        generalize l.getD j dw0 = d at *
        have T2 : Hid (∀ C t, C.size = 7 → World.there (wr.alloc (.cells C t)) wr.heap.size 0 (dwC d).length) := fun C t hC => (al1 wr C t).1.there (by rw [show (dwC d).length = 7 from rfl, Array.length_toList, hC]; decide)
        go_wp2_with (first | refine wpList_load_mid rfl 30 (.tmp 26) rfl bb (oo + j * 7) rfl (dwC d) _ HC.out Tryd.underlying30 rfl info_dw ?_ | refine wp_store_eq rfl 30 (.tmp 8) (.tmp 27) rfl wr.heap.size 0 (dwC d) rfl rfl (T2.out _ _ rfl) info_dw (one_dw d) ?_)
        intro w3 hw3
        obtain ⟨b3, h3⟩ : Blk w3 wr.heap.size (dwC d) ∧ Below wr.heap.size wr w3 := by
          rw [hw3.out]
          exact alst wr _ _ _ rfl
        have GK : Hid (g ≠ wr.heap.size) := Nat.ne_of_lt (SC.out.lt sr.out g (SC.out.self sr.out))
        have S3 : Hid (Src w3 g F seed p) := SC.out.up sr.out h3
        have D3 : Hid (Below w.heap.size w w3) := dr.out.trans (h3.mono dr.out.size)
        have B3 : Hid _ := b3
        have PL : Hid (p < 18446744073709551616) := SC.out.small S3.out
        clear hw3 b3 h3 T2 sr dr HC
        generalize wr.heap.size = kx at *
        obtain ⟨sk, be, nn, m⟩ := d
        have G0 : Hid (0 < g) := Nat.lt_of_lt_of_le K0.out HG.out.1
        have f0 := B3.out.cell 0 _ rfl
        have f1 := B3.out.cell 1 _ rfl
        have f2 := B3.out.cell 2 _ rfl
        simp only at f0 f1 f2
        cases be with
        | true =>
          obtain ⟨X, ec, NN, hN, cb, cr⟩ := BB.out m OD.out.2 w3 g F p S3.out (KU.out _ D3.out) G0.out
          have CB : Hid _ := cb
          have CR : Hid _ := cr
          obtain ⟨q, hq⟩ : ∃ q, q = (p + NN) % 18446744073709551616 := ⟨_, rfl⟩
          rw [← hq] at CB
          have wc : IntKind.u64.wrap (NN : Int) = (NN : Int) := by rw [IntKind.wrap_u64]; omega
          have wq : IntKind.u64.wrap ((p : Int) + (NN : Int)) = (q : Int) := by have := PL.out; rw [IntKind.wrap_u64]; omega
          have R3 : Hid (w3.rangeAt kx 3 (nC m)) := by
            have h := B3.out
            rw [dw_num] at h
            exact h.range rfl
          clear cb cr hq hN BB DR OD f0 f2
          go_wp2_with (refine wp_ldNo (by kernel_rfl) (.tmp 32) rfl kx 3 rfl m R3.out ?_)
          refine Calls.mono CB.out ?_
          rintro e w4 ⟨rfl, s4, fr4⟩
          have S4 : Hid (Src w4 g F seed q) := s4
          have B4 : Hid (Blk w4 kx (dwC ⟨sk, true, nn, m⟩)) := B3.out.fr fr4 (Ne.symm GK.out)
          have D4 : Hid (Below w.heap.size w w4) := D3.out.trans (fr4.below D3.out.size HG.out.1)
          clear s4 fr4 CB S3 B3 D3 R3 f1
          have T4 : Hid (∀ C t, C.size = 4 → World.there (w4.alloc (.cells C t)) w4.heap.size 0 4) := fun C t hC => (al1 w4 C t).1.there (by rw [Array.length_toList, hC]; omega)
          go_wp2_with (refine wp_stN rfl (.tmp 9) (.tmp 35) rfl w4.heap.size rfl X rfl (T4.out _ _ rfl) ?_)
          intro w5 hw5
          obtain ⟨b5, h5⟩ : Blk w5 w4.heap.size (nC X) ∧ Below w4.heap.size w4 w5 := by
            rw [hw5.out]
            exact alst w4 _ _ _ rfl
          have S5 : Hid (Src w5 g F seed q) := SC.out.up S4.out h5
          have XA : Hid _ := b5
          have D5 : Hid (Below w.heap.size w w5) := D4.out.trans (h5.mono D4.out.size)
          have B5 : Hid (Blk w5 kx (dwC ⟨sk, true, nn, m⟩)) := B4.out.up h5 B4.out.lt
          have R5 : Hid (w5.rangeAt kx 3 (nC m)) := by
            have h := B5.out
            rw [dw_num] at h
            exact h.range rfl
          clear hw5 b5 h5 T4 S4 B4 D4
          generalize w4.heap.size = ka at *
          go_wp2_with (first | refine wp_ldNo (by kernel_rfl) (.tmp 41) rfl kx 3 rfl m R5.out ?_ | refine wp_convT rfl (.tmp 38) rfl v0 seed us HU.out rfl (BU.out _ D5.out) ?_)
          refine (CR.out w5 (RU.out _ D5.out)).mono ?_
          rintro e w6 ⟨rfl, hb6⟩
          have S6 : Hid (Src w6 g F seed q) := SC.out.up S5.out hb6
          have D6 : Hid (Below w.heap.size w w6) := D5.out.trans (hb6.mono D5.out.size)
          have XA6 : Hid (Blk w6 ka (nC X)) := XA.out.up hb6 XA.out.lt
          clear hb6 S5 D5 XA B5 R5 CR
          have T6 : Hid (∀ C t, C.size = 4 → World.there (w6.alloc (.cells C t)) w6.heap.size 0 4) := fun C t hC => (al1 w6 C t).1.there (by rw [Array.length_toList, hC]; omega)
          go_wp2_with (refine wp_stN rfl (.tmp 11) (.tmp 44) rfl w6.heap.size rfl X rfl (T6.out _ _ rfl) ?_)
          intro w7 hw7
          obtain ⟨b7, h7⟩ : Blk w7 w6.heap.size (nC X) ∧ Below w6.heap.size w6 w7 := by
            rw [hw7.out]
            exact alst w6 _ _ _ rfl
          have S7 : Hid (Src w7 g F seed q) := SC.out.up S6.out h7
          have D7 : Hid (Below w.heap.size w w7) := D6.out.trans (h7.mono D6.out.size)
          have XA7 : Hid (Blk w7 ka (nC X)) := XA6.out.up h7 XA6.out.lt
          have XB7 : Hid _ := b7
          clear hw7 b7 h7 T6 S6 D6 XA6
          generalize w6.heap.size = kb at *
          have PS : Hid _ := SC.out.place w7 S7.out
          go_wp2_with (first | refine wp_ldNo (by kernel_rfl) (.tmp 9) rfl ka 0 rfl X XA7.out.all ?_ | refine wp_ldNo (by kernel_rfl) (.tmp 11) rfl kb 0 rfl X XB7.out.all ?_ | refine wp_neN (by kernel_rfl) (.tmp 51) (.tmp 52) _ rfl X rfl rfl ?_)
          refine Calls.mono PS.out ?_
          rintro e w8 ⟨rfl, hb8⟩
          have S8 : Hid (Src w8 g F seed q) := SC.out.up S7.out hb8
          have D8 : Hid (Below w.heap.size w w8) := D7.out.trans (hb8.mono D7.out.size)
          clear hb8 S7 D7 PS XA7 XB7
          go_wp2_with fail
          go_roundw
          case rel => exact ⟨j + 1, q, by omega, by go_num, rfl, S8, D8⟩
          case measure => simp [intOf]; omega
        | false =>
          by_cases n0 : nn < 0
          · have n0b := decide_eq_true n0
            cases sk with
            | true =>
              have CB : Hid _ := SC.out.skipNeg nn n0 w3 S3.out
              clear OD BB DR HU BU RU
              go_wp2_with fail
              refine Calls.mono CB.out ?_
              rintro e w4 ⟨rfl, hb4⟩
              have S4 : Hid (Src w4 g F seed p) := SC.out.up S3.out hb4
              have D4 : Hid (Below w.heap.size w w4) := D3.out.trans (hb4.mono D3.out.size)
              have PS : Hid _ := SC.out.place w4 S4.out
              clear hb4 S3 D3 CB f0 f1 f2 B3
              go_wp2_with fail
              refine Calls.mono PS.out ?_
              rintro e w8 ⟨rfl, hb8⟩
              have S8 : Hid (Src w8 g F seed p) := SC.out.up S4.out hb8
              have D8 : Hid (Below w.heap.size w w8) := D4.out.trans (hb8.mono D4.out.size)
              clear hb8 S4 D4 PS
              go_wp2_with fail
              go_roundw
              case rel => exact ⟨j + 1, p, by omega, by go_num, rfl, S8, D8⟩
              case measure => simp [intOf]; omega
            | false =>
              have CB : Hid _ := SC.out.bytesNeg nn n0 w3 S3.out
              clear OD BB DR HU BU RU
              go_wp2_with fail
              refine Calls.mono CB.out ?_
              rintro e w4 ⟨⟨v4, rfl, by4⟩, hb4⟩
              obtain ⟨a4, c4, rfl⟩ := by4.len
              have S4 : Hid (Src w4 g F seed p) := SC.out.up S3.out hb4
              have D4 : Hid (Below w.heap.size w w4) := D3.out.trans (hb4.mono D3.out.size)
              have PS : Hid _ := SC.out.place w4 S4.out
              clear hb4 S3 D3 CB f0 f1 f2 B3 by4
              simp only [List.length_nil]
              go_wp2_with fail
              refine Calls.mono PS.out ?_
              rintro e w8 ⟨rfl, hb8⟩
              have S8 : Hid (Src w8 g F seed p) := SC.out.up S4.out hb8
              have D8 : Hid (Below w.heap.size w w8) := D4.out.trans (hb8.mono D4.out.size)
              clear hb8 S4 D4 PS
              go_wp2_with fail
              go_roundw
              case rel => exact ⟨j + 1, p, by omega, by go_num, rfl, S8, D8⟩
              case measure => simp [intOf]; omega
          · have n0b := decide_eq_false n0
            by_cases n1 : 4096 < nn
            · have n1b := decide_eq_true n1
              cases sk with
              | true =>
                have CB : Hid _ := SC.out.skipLarge nn n1 w3 S3.out
                clear OD BB DR HU BU RU
                go_wp2_with fail
                refine Calls.mono CB.out ?_
                rintro e w4 ⟨rfl, hb4⟩
                have S4 : Hid (Src w4 g F seed p) := SC.out.up S3.out hb4
                have D4 : Hid (Below w.heap.size w w4) := D3.out.trans (hb4.mono D3.out.size)
                have PS : Hid _ := SC.out.place w4 S4.out
                clear hb4 S3 D3 CB f0 f1 f2 B3
                go_wp2_with fail
                refine Calls.mono PS.out ?_
                rintro e w8 ⟨rfl, hb8⟩
                have S8 : Hid (Src w8 g F seed p) := SC.out.up S4.out hb8
                have D8 : Hid (Below w.heap.size w w8) := D4.out.trans (hb8.mono D4.out.size)
                clear hb8 S4 D4 PS
                go_wp2_with fail
                go_roundw
                case rel => exact ⟨j + 1, p, by omega, by go_num, rfl, S8, D8⟩
                case measure => simp [intOf]; omega
              | false =>
                have CB : Hid _ := SC.out.bytesLarge nn n1 w3 S3.out
                clear OD BB DR HU BU RU
                go_wp2_with fail
                refine Calls.mono CB.out ?_
                rintro e w4 ⟨⟨v4, rfl, by4⟩, hb4⟩
                obtain ⟨a4, c4, rfl⟩ := by4.len
                have S4 : Hid (Src w4 g F seed p) := SC.out.up S3.out hb4
                have D4 : Hid (Below w.heap.size w w4) := D3.out.trans (hb4.mono D3.out.size)
                have PS : Hid _ := SC.out.place w4 S4.out
                clear hb4 S3 D3 CB f0 f1 f2 B3 by4
                simp only [List.length_nil]
                go_wp2_with fail
                refine Calls.mono PS.out ?_
                rintro e w8 ⟨rfl, hb8⟩
                have S8 : Hid (Src w8 g F seed p) := SC.out.up S4.out hb8
                have D8 : Hid (Below w.heap.size w w8) := D4.out.trans (hb8.mono D4.out.size)
                clear hb8 S4 D4 PS
                go_wp2_with fail
                go_roundw
                case rel => exact ⟨j + 1, p, by omega, by go_num, rfl, S8, D8⟩
                case measure => simp [intOf]; omega
            · have n1b := decide_eq_false n1
              obtain ⟨n, rfl⟩ := Int.eq_ofNat_of_zero_le (show 0 ≤ nn by omega)
              have n4 : n ≤ 4096 := by omega
              obtain ⟨q, hq⟩ : ∃ q, q = (p + n) % 18446744073709551616 := ⟨_, rfl⟩
              have wc : IntKind.u64.wrap (n : Int) = (n : Int) := by rw [IntKind.wrap_u64]; omega
              have wq : IntKind.u64.wrap ((p : Int) + (n : Int)) = (q : Int) := by have := PL.out; rw [IntKind.wrap_u64]; omega
              cases sk with
              | true =>
                have CB : Hid _ := SC.out.skip n n4 w3 S3.out G0.out
                rw [← hq] at CB
                clear hq n4 OD BB DR HU BU RU
                go_wp2_with fail
                refine Calls.mono CB.out ?_
                rintro e w4 ⟨rfl, s4, fr4⟩
                have S4 : Hid (Src w4 g F seed q) := s4
                have B4 : Hid (Blk w4 kx (dwC ⟨true, false, (n : Int), m⟩)) := B3.out.fr fr4 (Ne.symm GK.out)
                have D4 : Hid (Below w.heap.size w w4) := D3.out.trans (fr4.below D3.out.size HG.out.1)
                have f0' := B4.out.cell 0 _ rfl
                have f2' := B4.out.cell 2 _ rfl
                simp only at f0' f2'
                clear s4 fr4 CB S3 B3 D3 f0 f1 f2
                go_wp2_with fail
                refine wp_region_up (by kernel_rfl) (by kernel_rfl) (fun U hU f hf hcl => ?_)
                have N0 : ∀ n, (f n).cell? ⟨kx, 0, none⟩ = some (.bool true) := fun n => (B4.out.up (hf n).out B4.out.lt).cell 0 _ rfl
                repeat (go_big_quiet_step (fail))
                clear N0
                refine wpQuiet_nil ?_
                intro nz
                have hb5 := (hf nz).out
                generalize f nz = w5 at hb5 ⊢
                have S5 : Hid (Src w5 g F seed q) := SC.out.up S4.out hb5
                have D5 : Hid (Below w.heap.size w w5) := D4.out.trans (hb5.mono D4.out.size)
                have B5 : Blk w5 kx (dwC ⟨true, false, (n : Int), m⟩) := B4.out.up hb5 B4.out.lt
                have f2'' := B5.cell 2 _ rfl
                simp only at f2''
                have PS : Hid _ := SC.out.place w5 S5.out
                clear hf hcl hb5 S4 D4 B4 B5 f0' f2'
                go_wp2_with fail
                refine Calls.mono PS.out ?_
                rintro e w8 ⟨rfl, hb8⟩
                have S8 : Hid (Src w8 g F seed q) := SC.out.up S5.out hb8
                have D8 : Hid (Below w.heap.size w w8) := D5.out.trans (hb8.mono D5.out.size)
                clear hb8 S5 D5 PS
                go_wp2_with fail
                go_roundw
                case rel => exact ⟨j + 1, q, by omega, by go_num, rfl, S8, D8⟩
                case measure => simp [intOf]; omega
              | false =>
                have CB : Hid _ := SC.out.bytes n n4 w3 S3.out (KU.out _ D3.out) G0.out
                rw [← hq] at CB
                have DP : Hid _ := DR.out p PL.out n n4
                clear hq n4 OD BB DR
                generalize hts : sOf (drawS seed p n) = ts at *
                have HTS : Hid (sOf (drawS seed p n) = ts) := hts
                clear hts
                go_wp2_with fail
                refine Calls.mono CB.out ?_
                rintro e w4 ⟨⟨v4, rfl, ob4⟩, s4, fr4⟩
                have S4 : Hid (Src w4 g F seed q) := s4
                have B4 : Hid (Blk w4 kx (dwC ⟨false, false, (n : Int), m⟩)) := B3.out.fr fr4 (Ne.symm GK.out)
                have D4 : Hid (Below w.heap.size w w4) := D3.out.trans (fr4.below D3.out.size HG.out.1)
                have f0' := B4.out.cell 0 _ rfl
                have f2' := B4.out.cell 2 _ rfl
                simp only at f0' f2'
                have Y4 : Hid (By w4 v4 (drawS seed p n)) := ob4.by
                generalize drawS seed p n = bs at *
                clear s4 fr4 CB S3 B3 D3 f0 f1 f2 ob4
                go_wp2_with fail
                refine wp_region_up (by kernel_rfl) (by kernel_rfl) (fun U hU f hf hcl => ?_)
                have HB : ∀ n, Below w.heap.size w (f n) := fun n => D4.out.trans ((hf n).out.mono D4.out.size)
                have N0 : ∀ n, (f n).cell? ⟨kx, 0, none⟩ = some (.bool false) := fun n => (B4.out.up (hf n).out B4.out.lt).cell 0 _ rfl
                have N2 : ∀ i, (f i).cell? ⟨kx, 2, none⟩ = some (.int .i64 (n : Int)) := fun n => (B4.out.up (hf n).out B4.out.lt).cell 2 _ rfl
                have NY : Hid (∀ n, By (f n) v4 bs) := fun n => Y4.out.up (hf n).out (Nat.le_refl _)
                have NV : Hid (∀ n, By (f n) v0 seed) := fun n => BU.out _ (HB n)
                have ND : Hid _ := fun n => DP.out (f n) (RU.out _ (HB n))
                clear HB
                repeat (first | (refine quiet_conv rfl (.tmp 102) rfl v4 bs ts HTS.out rfl (fun W hW => by obtain ⟨n, rfl⟩ := hW; exact NY.out n) ?_; simp only [Act.put, List.setIfInBounds_toArray, List.set_cons_succ, List.set_cons_zero]) | (refine quiet_conv rfl (.tmp 104) rfl v0 seed us HU.out rfl (fun W hW => by obtain ⟨n, rfl⟩ := hW; exact NV.out n) ?_; simp only [Act.put, List.setIfInBounds_toArray, List.set_cons_succ, List.set_cons_zero]) | go_big_quiet_step (first | (go_at_call 14; exact (ND.out _).mono fun e w'' ⟨he, hb⟩ => ⟨he, hcl.out _ _ hb⟩)))
                clear N0 N2 NY NV ND
                refine wpQuiet_nil ?_
                intro nz
                have hb5 := (hf nz).out
                generalize f nz = w5 at hb5 ⊢
                have S5 : Hid (Src w5 g F seed q) := SC.out.up S4.out hb5
                have D5 : Hid (Below w.heap.size w w5) := D4.out.trans (hb5.mono D4.out.size)
                have B5 : Blk w5 kx (dwC ⟨false, false, (n : Int), m⟩) := B4.out.up hb5 B4.out.lt
                have f2'' := B5.cell 2 _ rfl
                simp only at f2''
                have PS : Hid _ := SC.out.place w5 S5.out
                clear hf hcl hb5 S4 D4 B4 B5 f0' f2'
                go_wp2_with fail
                refine Calls.mono PS.out ?_
                rintro e w8 ⟨rfl, hb8⟩
                have S8 : Hid (Src w8 g F seed q) := SC.out.up S5.out hb8
                have D8 : Hid (Below w.heap.size w w8) := D5.out.trans (hb8.mono D5.out.size)
                clear hb8 S5 D5 PS
                go_wp2_with fail
                go_roundw
                case rel => exact ⟨j + 1, q, by omega, by go_num, rfl, S8, D8⟩
                case measure => simp [intOf]; omega
      · have j1 : ¬ (j : Int) < (len : Int) := by omega
        go_wp2_with fail
        go_ret
        exact ⟨rfl, dr.out⟩
end Go.Proofs.YtfanndkhajokcaaDoor
