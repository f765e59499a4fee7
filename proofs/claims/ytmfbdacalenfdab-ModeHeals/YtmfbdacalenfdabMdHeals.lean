/- ModeHeals out of the contracts of packages aes and mode. -/
import Derived.Test.YtmfbdacalenfdabMdAlive
import Derived.Test.YtmfbdacalenfdabMdHeal
namespace Go.Proofs.Ytmfbdacalenfdab
open Go.RowKit
set_option linter.unusedSimpArgs false
attribute [local go_sem] YieldsP execOp
attribute [local simp] MP.eq_p
theorem by_at {w : World} {a : Option Addr} {n c : Nat} {xs : List Nat} (h : By w (.slice a n c) xs) {i : Nat} (hi : i < xs.length) : ∃ b o, a = some ⟨b, o, none⟩ ∧ w.cell? ⟨b, o + i, none⟩ = some (b8 (xs.getD i 0)) := by
  obtain ⟨a', c', e, _, _, hcell⟩ := h
  cases e
  obtain ⟨b, o, e, hc⟩ := hcell (by omega)
  exact ⟨b, o, e, hc i hi⟩
theorem ob_form {w : World} {B : Nat} {v : Value} {xs : List Nat} (h : Ob w B v xs) (hp : 0 < xs.length) : ∃ g c, v = .slice (some ⟨g, 0, none⟩) xs.length c ∧ B ≤ g := by
  rcases h.2 with ⟨_, e2⟩ | ⟨g, cap, cur, e, hB, _⟩
  · omega
  · exact ⟨g, cap, e, hB⟩
set_option maxRecDepth 20000 in
set_option maxHeartbeats 1000000 in
theorem modeHeals_of {Tb : World → Prop} {zk : List Value} {Ky : World → List Value → List Nat → Prop} (C : AesC Tb zk Ky) (M : ModeC Tb Ky) (v : Value) (key : List Nat) (lk : ∀ x ∈ key, x < 256) (iv : List Nat) (hi : A.ok 16 iv) (u : Value) (p : List Nat) (lp : ∀ x ∈ p, x < 256) (zp : p.length ≤ 140737488351232) (at_ : Int) (hat : -9223372036854775808 ≤ at_ ∧ at_ ≤ 9223372036854775807) (y : Nat) (hy : y < 256) (w : World) (ht : Tb w) (hk : By w v key) (hu : By w u p) :
    Calls Try.prog 4 #[v, aB iv, u, .int .i64 at_, .int .u8 (y : Int)] w fun e w' => e = .returned (.bool true) ∧ Below w.heap.size w w' := by
  obtain ⟨x0, x1⟩ := al1 w (iv.map b8).toArray 23
  have X0 : Hid (Blk _ w.heap.size (iv.map b8)) := x0
  have X1 : Hid (Below w.heap.size w _) := x1
  have HI : Hid (A.ok 16 iv) := hi
  have MO : Hid _ := modes_fun C M _ (C.tb ht x1)
  by_cases hn : KeyN key.length
  · have KB : KeyB key := ⟨hn, lk⟩
    have EX : Hid (∀ W, Below w.heap.size w W → Calls Try.prog 5 #[v] W fun e w' => ∃ cs, e = .returned (.tuple #[.agg cs.toArray, .int .i64 0]) ∧ Ky w' cs key ∧ Below W.heap.size W w') := fun W hW => C.expand key v KB W (C.tb ht hW) (hk.up hW (Nat.le_refl _))
    obtain ⟨ws, hws⟩ : ∃ ws, ws = A.keyW key := ⟨_, rfl⟩
    have OKW : Hid (A.okW ws) := by rw [hws]; exact KB.ws
    have HP : Hid (∀ W, Below w.heap.size w W → By W u p) := fun W hW => hu.up hW (Nat.le_refl _)
    have SM : Hid (∀ cs W, Below w.heap.size w W → Ky W cs key → Calls Try.prog 8 #[.agg cs.toArray, aB iv, u] W fun e w' => ∃ x, e = .returned x ∧ Ob w' W.heap.size x (A.sealS ws iv p) ∧ Below W.heap.size W w') := fun cs W hW hK => by
      rw [hws]
      exact M.seals key cs iv p u KB hi lp zp W (C.tb ht hW) hK (hu.up hW (Nat.le_refl _))
    have SK : Hid (A.ok (16 * (p.length / 16 + 1)) (A.sealS ws iv p)) := sealS_ok OKW.out hi lp
    have HEAL : Hid (∀ a, a + 32 < (A.sealS ws iv p).length → ∃ q : List Nat, q.length = p.length ∧ (∀ i, i < p.length → i / 16 ≠ a / 16 → q.getD i 0 = p.getD i 0 ^^^ (if i = a + 16 then y else 0)) ∧ ∀ cs W x, Below w.heap.size w W → Ky W cs key → By W x ((A.sealS ws iv p).set a ((A.sealS ws iv p).getD a 0 ^^^ y)) → Calls Try.prog 6 #[.agg cs.toArray, aB iv, x] W fun e w' => ∃ z, e = .returned (.tuple #[z, .int .i64 0]) ∧ By w' z q ∧ Below W.heap.size W w') := fun a ha => by
      obtain ⟨q, hq, hl, hg⟩ := A.seal_heals OKW.out hi lp (a := a) (y := y) ha
      refine ⟨q, hl, hg, fun cs W x hW hK hx => ?_⟩
      have low : ∀ z ∈ (A.sealS ws iv p).set a ((A.sealS ws iv p).getD a 0 ^^^ y), z < 256 := fun z hz => (List.mem_or_eq_of_mem_set hz).elim (SK.out.2 z) (fun e => by rw [e]; exact G.xor_lt (SK.out.at a) hy)
      have := M.opens key cs iv _ x KB HI.out low (by rw [List.length_set, SK.out.1]; omega) (by rw [List.length_set, SK.out.1]; omega) (by rw [List.length_set, SK.out.1]; omega) W (C.tb ht hW) hK hx
      rw [← hws, hq] at this
      exact this
    have ZP : Hid (p.length ≤ 140737488351232) := zp
    have LPP : Hid (∀ i, p.getD i 0 < 256) := fun i => (show A.ok p.length p from ⟨rfl, lp⟩).at i
    have HY : Hid (y < 256) := hy
    obtain ⟨au, cu, rfl, _, _, _⟩ := id hu
    obtain ⟨N, hN⟩ : ∃ N, N = 16 * (p.length / 16 + 1) := ⟨_, rfl⟩
    rw [← hN] at SK
    have NN : Hid (N = 16 * (p.length / 16 + 1)) := hN
    generalize A.sealS ws iv p = st at *
    obtain ⟨n, hnl⟩ : ∃ n, n = p.length := ⟨_, rfl⟩
    rw [← hnl] at HEAL ZP HP SM NN ⊢
    have LP : Hid (p.length = n) := hnl.symm
    have HAT : Hid (-9223372036854775808 ≤ at_ ∧ at_ ≤ 9223372036854775807) := hat
    clear hws x0 x1 hu zp hN hnl hat hy lp
    go_enter Try.func4, Try.ntmps4
    go_wp2_with fail
    refine Calls.mono MO.out ?_
    rintro e w0 ⟨rfl, hb0⟩
    have D0 : Hid (Below w.heap.size w w0) := X1.out.trans (hb0.mono X1.out.size)
    have Y0 : Hid (Blk w0 w.heap.size (iv.map b8)) := X0.out.up hb0 X0.out.lt
    clear hb0 X0 X1 MO
    go_wp2_with fail
    refine Calls.mono (EX.out w0 D0.out) ?_
    rintro e w1 ⟨cs, rfl, hky, hb1⟩
    have KY : Hid (Ky w1 cs key) := hky
    have D1 : Hid (Below w.heap.size w w1) := D0.out.trans (hb1.mono D0.out.size)
    have Y1 : Hid (Blk w1 w.heap.size (iv.map b8)) := Y0.out.up hb1 Y0.out.lt
    have CL : Hid (cs.length = zk.length) := C.size hky
    have CO : Hid (∀ v ∈ cs, v.oneCell' = true) := C.one hky
    clear EX hky hb1 D0 Y0
    go_wp2_with (refine C.make rfl rfl 11 (.tmp 23) rfl rfl rfl rfl cs CL.out CO.out rfl rfl ?_)
    intro w2 k2 hb2
    obtain ⟨kk, hkk⟩ : ∃ kk, kk = w1.heap.size := ⟨_, rfl⟩
    rw [← hkk] at k2 ⊢
    have K2 : Hid (Blk w2 kk cs) := k2
    have KY2 : Hid (Ky w2 cs key) := C.up KY.out hb2
    have D2 : Hid (Below w.heap.size w w2) := D1.out.trans (hb2.mono D1.out.size)
    have Y2 : Hid (Blk w2 w.heap.size (iv.map b8)) := Y1.out.up hb2 Y1.out.lt
    have IB : Hid _ := info_n binfo_a16 iv HI.out.1
    obtain ⟨dk, huk, hrk⟩ := C.row
    have IK : Hid _ := C.info.trans (congrArg some CL.out.symm)
    clear k2 hb2 hkk KY D1 Y1
    go_wp2_with (first | refine wpList_load_mid rfl 27 (.tmp 11) rfl kk 0 rfl cs dk K2.out.all huk hrk IK.out ?_ | refine wpList_load_mid rfl 23 (.tmp 6) rfl w.heap.size 0 rfl (iv.map b8) _ Y2.out.all bu_a16 rfl IB.out ?_)
    refine Calls.mono (SM.out cs w2 D2.out KY2.out) ?_
    rintro e w3 ⟨x3, rfl, ho3, hb3⟩
    obtain ⟨g, cg, rfl, hg⟩ := ob_form ho3 (by rw [SK.out.1, NN.out]; omega)
    rw [SK.out.1] at ho3 ⊢
    have O3 : Hid (Ob w3 w2.heap.size (.slice (some ⟨g, 0, none⟩) N cg) st) := ho3
    have D3 : Hid (Below w2.heap.size w2 w3) := hb3
    have NB : Hid (16 ≤ N ∧ N ≤ 140737488351248) := by have h1 := NN.out; have h2 := ZP.out; show _ ∧ _; omega
    have NB' := NB.out
    have wN : IntKind.i64.wrap ((N : Int) - 32) = (N : Int) - 32 := by rw [IntKind.wrap_i64]; omega
    clear ho3 hb3 SM
    by_cases hneg : at_ < 0
    · have DE : Hid (Below w.heap.size w w3) := D2.out.trans (D3.out.mono D2.out.size)
      go_wp2_with fail
      go_ret
      exact ⟨rfl, DE.out⟩
    · by_cases hbig : (N : Int) - 32 ≤ at_
      · have DE : Hid (Below w.heap.size w w3) := D2.out.trans (D3.out.mono D2.out.size)
        go_wp2_with fail
        go_ret
        exact ⟨rfl, DE.out⟩
      · obtain ⟨a, rfl⟩ := Int.eq_ofNat_of_zero_le (show 0 ≤ at_ by omega)
        have ha32 : a + 32 < N := by omega
        obtain ⟨q, hql, hqg, hqo⟩ := HEAL.out a (by rw [SK.out.1]; exact ha32)
        have QL : Hid (q.length = n) := hql
        have QG : Hid _ := hqg
        have QO : Hid _ := hqo
        obtain ⟨c3, f3⟩ := Ob.cell O3.out SK.out.1.symm a (by rw [SK.out.1]; omega)
        have xe := g_xor (SK.out.at a) HY.out
        have st4 := Ob.setAt O3.out SK.out.1.symm hg a (st.getD a 0 ^^^ y) _ rfl
        have O4 : Hid (Ob (w3.setCell ⟨g, a, none⟩ (.int .u8 ((st.getD a 0 ^^^ y : Nat) : Int))) w2.heap.size (.slice (some ⟨g, 0, none⟩) N cg) (st.set a (st.getD a 0 ^^^ y))) := st4.1
        have B4 : Hid _ := D3.out.trans (st4.2.mono (Nat.le_refl _))
        have A32 : Hid (a + 32 < N) := ha32
        have i0 : (a : Int) < (N : Int) := by omega
        have ia : (0 : Int) ≤ (a : Int) := by omega
        obtain ⟨sv, hsv⟩ : ∃ sv, sv = st.set a (st.getD a 0 ^^^ y) := ⟨_, rfl⟩
        rw [← hsv] at O4 QO
        generalize st.getD a 0 ^^^ y = nw at *
        generalize st.getD a 0 = ow at *
        clear hql hqg hqo hg st4 hsv HEAL ha32 O3 D3
        go_wp2_with (refine wp_named 27 (.tmp 11) rfl ?_)
        intro w4 hw4
        rw [← hw4.out] at O4 B4
        have K4 : Hid (Blk w4 kk cs) := K2.out.up B4.out K2.out.lt
        have KY4 : Hid (Ky w4 cs key) := C.up KY2.out B4.out
        have D4 : Hid (Below w.heap.size w w4) := D2.out.trans (B4.out.mono D2.out.size)
        have Y4 : Hid (Blk w4 w.heap.size (iv.map b8)) := Y2.out.up B4.out Y2.out.lt
        clear hw4 K2 KY2 D2 Y2 B4 c3 f3 xe
        go_wp2_with (first | refine wpList_load_mid rfl 27 (.tmp 11) rfl kk 0 rfl cs dk K4.out.all huk hrk IK.out ?_ | refine wpList_load_mid rfl 23 (.tmp 6) rfl w.heap.size 0 rfl (iv.map b8) _ Y4.out.all bu_a16 rfl IB.out ?_)
        refine Calls.mono (QO.out cs w4 _ D4.out KY4.out O4.out.by) ?_
        rintro e w5 ⟨x5, rfl, hy5, hb5⟩
        have D5 : Hid (Below w.heap.size w w5) := D4.out.trans (hb5.mono D4.out.size)
        have QB : Hid (∀ W, Below w5.heap.size w5 W → By W x5 q) := fun W hW => hy5.up hW (Nat.le_refl _)
        obtain ⟨a5, c5, e5, _, _, _⟩ := hy5
        rw [QL.out] at e5
        subst e5
        have PB : Hid (∀ W, Below w5.heap.size w5 W → By W (.slice au n cu) p) := fun W hW => HP.out W (D5.out.trans (hW.mono D5.out.size))
        clear hb5 K4 KY4 D4 Y4 O4 QO
        go_wp2_with fail
        go_loopw [65] (fun i wr => ∃ j : Nat, j ≤ n ∧ i = .int .i64 (j : Int) ∧ Hid (wr = w5)) (fun i _ => n - (intOf i).toNat)
        case atStart => exact ⟨0, by omega, rfl, rfl⟩
        case round =>
          obtain ⟨j, hj, rfl, hw⟩ := hrel
          by_cases hj1 : j < n
          · have j1 : (j : Int) < (n : Int) := by omega
            have j0 : (0 : Int) ≤ (j : Int) := by omega
            have wj : IntKind.i64.wrap ((j : Int) + 1) = (j : Int) + 1 := by have := ZP.out; rw [IntKind.wrap_i64]; omega
            have bw : Below w5.heap.size w5 wr := by rw [hw.out]; exact Below.refl _ _
            obtain ⟨b1, o1, rfl, c1⟩ := by_at (PB.out wr bw) (i := j) (by rw [LP.out]; exact hj1)
            obtain ⟨b2, o2, rfl, c2⟩ := by_at (QB.out wr bw) (i := j) (by rw [QL.out]; exact hj1)
            have wa : IntKind.i64.wrap ((a : Int) + 16) = (a : Int) + 16 := by rw [IntKind.wrap_i64]; omega
            obtain ⟨ja, hja⟩ : ∃ t, t = j / 16 := ⟨_, rfl⟩
            obtain ⟨aa, haa⟩ : ∃ t, t = a / 16 := ⟨_, rfl⟩
            have d1 : (j : Int).tdiv 16 = (ja : Int) := by rw [Int.tdiv_eq_ediv_of_nonneg (by omega)]; omega
            have d2 : (j : Int) / 16 = (ja : Int) := by omega
            have d3 : (a : Int).tdiv 16 = (aa : Int) := by rw [Int.tdiv_eq_ediv_of_nonneg (by omega)]; omega
            have d4 : (a : Int) / 16 = (aa : Int) := by omega
            have wq1 : IntKind.i64.wrap (ja : Int) = (ja : Int) := by have := ZP.out; rw [IntKind.wrap_i64]; omega
            have wq2 : IntKind.i64.wrap (aa : Int) = (aa : Int) := by rw [IntKind.wrap_i64]; omega
            have GQ := QG.out j hj1
            rw [← hja, ← haa] at GQ
            have PJ := LPP.out j
            have xe := g_xor PJ HY.out
            have JJ : Hid (j < n) := hj1
            have ADJ : Hid (j = a + 16 → ¬ ja = aa) := fun h => by omega
            have GQ' : Hid _ := GQ
            generalize q.getD j 0 = qj at *
            generalize p.getD j 0 = pj at *
            clear hja haa hj hj1 bw PJ GQ
            by_cases hblk : ja = aa
            · have e1 : ((ja : Int) != (aa : Int)) = false := by simp [hblk]
              have ej : ((j : Int) == (a : Int) + 16) = false := by
                have : ¬ j = a + 16 := fun h => ADJ.out h hblk
                simp
                omega
              clear hblk
              go_wp2_with fail
              go_roundw
              case rel => exact ⟨j + 1, JJ.out, by first | rfl | go_num, hw⟩
              case measure => have := JJ.out; simp [intOf]; omega
            · have e1 : ((ja : Int) != (aa : Int)) = true := by simp; omega
              have gq := GQ'.out hblk
              by_cases h16 : j = a + 16
              · rw [if_pos h16] at gq
                have ej : ((j : Int) == (a : Int) + 16) = true := by simp; omega
                rw [← gq] at xe
                clear h16 hblk gq
                go_wp2_with fail
                go_roundw
                case rel => exact ⟨j + 1, JJ.out, by first | rfl | go_num, hw⟩
                case measure => have := JJ.out; simp [intOf]; omega
              · rw [if_neg h16, Nat.xor_zero] at gq
                have ej : ((j : Int) == (a : Int) + 16) = false := by simp; omega
                subst gq
                clear h16 hblk
                go_wp2_with fail
                go_roundw
                case rel => exact ⟨j + 1, JJ.out, by first | rfl | go_num, hw⟩
                case measure => have := JJ.out; simp [intOf]; omega
          · obtain rfl : j = n := by omega
            clear hj hj1
            go_wp2_with fail
            go_ret
            exact ⟨rfl, by rw [hw.out]; exact D5.out⟩
  · have EX : Hid (∀ W, Below w.heap.size w W → Calls Try.prog 5 #[v] W fun e w' => e = .returned (.tuple #[.agg zk.toArray, .int .i64 1]) ∧ Below W.heap.size W w') := fun W hW => C.bad key v lk hn W (C.tb ht hW) (hk.up hW (Nat.le_refl _))
    have CO := C.zone
    clear hi x0 x1
    go_enter Try.func4, Try.ntmps4
    go_wp2_with fail
    refine Calls.mono MO.out ?_
    rintro e w0 ⟨rfl, hb0⟩
    have D0 : Hid (Below w.heap.size w w0) := X1.out.trans (hb0.mono X1.out.size)
    clear hb0 X0 X1 MO
    go_wp2_with fail
    refine Calls.mono (EX.out w0 D0.out) ?_
    rintro e w1 ⟨rfl, hb1⟩
    have D1 : Hid (Below w.heap.size w w1) := D0.out.trans (hb1.mono D0.out.size)
    clear hb1 EX D0
    go_wp2_with (refine C.make rfl rfl 11 (.tmp 23) rfl rfl rfl rfl zk rfl CO rfl rfl ?_)
    intro w2 _ hb2
    have D2 : Hid (Below w.heap.size w w2) := D1.out.trans (hb2.mono D1.out.size)
    clear hb2 D1
    go_wp2_with fail
    go_ret
    exact ⟨rfl, D2.out⟩
end Go.Proofs.Ytmfbdacalenfdab
