/- The contracts of sealringref's Cipher.rounds and Cipher.Encrypt. -/
import Derived.Test.YtejabkmhpiabnaaAMixed
import Derived.Test.YtejabkmhpiabnaaGrp8
namespace Go.Proofs.Ytejabkmhpiabnaa
open Go.RowKit
set_option linter.unusedSimpArgs false
attribute [local go_sem] YieldsP execOp
attribute [local simp] MP.eq_p
theorem Cph.box {w : World} {k : Nat} {ws : List (List Nat)} (h : Cph w k ws) (v : Nat) (hv : v < 256) : w.cell? ⟨k, 1 + v, none⟩ = some (b8 (G.sub v)) := by
  obtain ⟨u, _, h2⟩ := h
  refine h2.cell (1 + v) _ ?_
  rw [Nat.add_comm, List.getElem?_cons_succ, List.getElem?_map, List.getElem?_append_left (by rw [show G.boxL.length = 256 by simp [G.boxL]]; exact hv)]
  simp [G.boxL, hv]
theorem Cph.unbox {w : World} {k : Nat} {ws : List (List Nat)} (h : Cph w k ws) (v : Nat) (hv : v < 256) : w.cell? ⟨k, 257 + v, none⟩ = some (b8 (G.unsub v)) := by
  obtain ⟨u, _, h2⟩ := h
  refine h2.cell (257 + v) _ ?_
  have hl : G.boxL.length = 256 := by simp [G.boxL]
  rw [show 257 + v = (256 + v) + 1 by omega, List.getElem?_cons_succ, List.getElem?_map, List.getElem?_append_right (by omega), hl, Nat.add_sub_cancel_left]
  simp [G.unboxL, hv]
namespace A
theorem tp_div {p : Nat} (h : p < 16) : tp p / 4 = p % 4 ∧ tp p % 4 = p / 4 := by unfold tp; omega
theorem grid_get (s : List Nat) {p : Nat} (h : p < 16) : (gridL s).getD p 0 = s.getD (tp p) 0 := by_get h
theorem add_grid (s : List Nat) (ws : List (List Nat)) (rd : Nat) : (by_ 16 fun p => (gridL s).getD p 0 ^^^ (ws.getD (4 * rd + p % 4) []).getD (p / 4) 0) = gridL (addK s (rk ws rd)) := by
  refine by_congr fun p hp => ?_
  unfold addK rk
  rw [grid_get s hp, by_get (tps p hp).1, by_get (tps p hp).1, (tp_div hp).1, (tp_div hp).2]
theorem colG_grid (s : List Nat) {k : Nat} (hk : k < 4) : colG (gridL s) k = col s k := by
  unfold colG col
  rw [grid_get s (by omega), grid_get s (by omega), grid_get s (by omega), grid_get s (by omega)]
  have e0 : tp k = 4 * k := by unfold tp; omega
  have e1 : tp (4 + k) = 4 * k + 1 := by unfold tp; omega
  have e2 : tp (8 + k) = 4 * k + 2 := by unfold tp; omega
  have e3 : tp (12 + k) = 4 * k + 3 := by unfold tp; omega
  rw [e0, e1, e2, e3]
theorem mix_grid {s : List Nat} (h : ok 16 s) : mixG (gridL s) [2, 3, 1, 1] = gridL (mixAll s) := by
  refine by_congr fun p hp => ?_
  unfold mixAll
  rw [by_get (tps p hp).1, (tp_div hp).1, (tp_div hp).2, colG_grid s (by omega)]
  obtain ⟨a, b, c, d, e, ha, hb, hc, hd⟩ := (col_four h (p % 4)).ex
  rw [e, G.colL_mix ha hb hc hd]
  rfl
theorem unmix_grid {s : List Nat} (h : ok 16 s) : mixG (gridL s) [14, 11, 13, 9] = gridL (unmixAll s) := by
  refine by_congr fun p hp => ?_
  unfold unmixAll
  rw [by_get (tps p hp).1, (tp_div hp).1, (tp_div hp).2, colG_grid s (by omega)]
  obtain ⟨a, b, c, d, e, ha, hb, hc, hd⟩ := (col_four h (p % 4)).ex
  rw [e, G.colL_unmix]
  rfl
/-- What Encrypt's inner loops make of a grid. -/
theorem sub_grid (s : List Nat) : (by_ 16 fun p => G.sub ((gridL s).getD (p / 4 * 4 + (p % 4 + p / 4) % 4) 0)) = gridL (shift (subAll s)) := by
  refine by_congr fun p hp => ?_
  unfold shift subAll
  have ht : turn (tp p) < 16 := (turns _ (tps p hp).1).1
  rw [by_get (tps p hp).1, by_get ht, grid_get s (by omega)]
  congr 2
  unfold turn
  rw [(tp_div hp).1, (tp_div hp).2]
  unfold tp
  omega
theorem grid_ok {s : List Nat} (h : ok 16 s) : ok 16 (gridL s) := gridL_ok h
end A
set_option maxHeartbeats 400000 in
theorem rrounds_fun (ws : List (List Nat)) (kc : Nat) (hz : ws.length ≤ 100) (h4 : 4 ≤ ws.length) (w : World) (hc : Cph w kc ws) : Calls Try.prog 45 #[.pointer (some ⟨kc, 0, none⟩)] w fun e w' => e = .returned (.int .i64 ((ws.length / 4 - 1 : Nat) : Int)) ∧ Below w.heap.size w w' := by
  obtain ⟨v, hv, hb⟩ := hc
  obtain ⟨a, c, rfl, _, _⟩ := hv
  have c0 := hb.cell 0 _ rfl
  obtain ⟨n, hn⟩ : ∃ n, n = ws.length := ⟨_, rfl⟩
  rw [← hn] at c0 hz h4 ⊢
  obtain ⟨q, hq⟩ : ∃ q, q = n / 4 := ⟨_, rfl⟩
  have d1 : (n : Int).tdiv 4 = (q : Int) := by rw [Int.tdiv_eq_ediv_of_nonneg (by omega)]; omega
  have d2 : (n : Int) / 4 = (q : Int) := by omega
  have wq : IntKind.i64.wrap (q : Int) = (q : Int) := by rw [IntKind.wrap_i64]; omega
  have ws1 : IntKind.i64.wrap ((q : Int) - 1) = ((q - 1 : Nat) : Int) := by rw [IntKind.wrap_i64]; omega
  rw [← hq]
  obtain ⟨r, hr⟩ : ∃ r, r = q - 1 := ⟨_, rfl⟩
  rw [← hr] at ws1 ⊢
  clear hb hn hq hr
  go_enter Try.func45, Try.ntmps45
  go_wp2_with fail
  go_ret
  exact ⟨rfl, Below.refl _ _⟩
theorem zero16 {w : World} : Blk (w.alloc (.cells #[Value.int IntKind.u8 0, Value.int IntKind.u8 0, Value.int IntKind.u8 0, Value.int IntKind.u8 0, Value.int IntKind.u8 0, Value.int IntKind.u8 0, Value.int IntKind.u8 0, Value.int IntKind.u8 0, Value.int IntKind.u8 0, Value.int IntKind.u8 0, Value.int IntKind.u8 0, Value.int IntKind.u8 0, Value.int IntKind.u8 0, Value.int IntKind.u8 0, Value.int IntKind.u8 0, Value.int IntKind.u8 0] 75)) w.heap.size ((A.midL (fun _ => 0) (fun _ => 0) 0).map b8) := (al1 w #[Value.int IntKind.u8 0, Value.int IntKind.u8 0, Value.int IntKind.u8 0, Value.int IntKind.u8 0, Value.int IntKind.u8 0, Value.int IntKind.u8 0, Value.int IntKind.u8 0, Value.int IntKind.u8 0, Value.int IntKind.u8 0, Value.int IntKind.u8 0, Value.int IntKind.u8 0, Value.int IntKind.u8 0, Value.int IntKind.u8 0, Value.int IntKind.u8 0, Value.int IntKind.u8 0, Value.int IntKind.u8 0] 75).1
theorem midL_zeros (new : Nat → Nat) : A.midL (fun _ => 0) new 0 = A.midL (fun _ => 0) (fun _ => 0) 0 := by rw [A.midL_zero, A.midL_zero]
set_option maxRecDepth 20000 in
set_option maxHeartbeats 1000000 in
theorem rencrypt_fun (ws : List (List Nat)) (hw : A.okW ws) (r : Nat) (hl : ws.length = 4 * (r + 1)) (hz : r ≤ 20) (b : List Nat) (hb : A.ok 16 b) (kc : Nat) (w : World) (hc : Cph w kc ws) :
    Calls Try.prog 28 #[.pointer (some ⟨kc, 0, none⟩), aB b] w fun e w' => e = .returned (aB (A.encS ws b)) ∧ Below w.heap.size w w' := by
  have hrd : ws.length / 4 - 1 = r := by omega
  obtain ⟨E, hE⟩ : ∃ E : Nat → List Nat, ∀ j, E j = A.encN (A.rk ws) r b j := ⟨_, fun _ => rfl⟩
  have EOK : Hid (∀ j, j ≤ r → A.ok 16 (E j)) := fun j hj => by rw [hE]; exact A.encN_ok (fun j _ => A.rk_ok hw j) hb j hj
  have EF : Hid (A.encS ws b = E r) := by rw [A.encS, hrd, hE]; exact rfl
  rw [EF.out]
  have CU : Hid (∀ W, Below w.heap.size w W → Cph W kc ws) := fun W hW => hc.up hW
  have GR : Hid _ := rgrid_fun b hb
  have AD : Hid (∀ s rd W, A.ok 16 s → rd ≤ r → Below w.heap.size w W → Calls Try.prog 43 #[.pointer (some ⟨kc, 0, none⟩), aB (A.gridL s), .int .i64 (rd : Int)] W fun e w' => e = .returned (aB (A.gridL (A.addK s (A.rk ws rd)))) ∧ Below W.heap.size W w') := fun s rd W hs hrd hW => by
    have := radd_fun ws hw (A.gridL s) (A.gridL_ok hs) rd (by omega) (by omega) kc W (hc.up hW)
    rw [A.add_grid] at this
    exact this
  have RN : Hid (∀ W, Below w.heap.size w W → Calls Try.prog 45 #[.pointer (some ⟨kc, 0, none⟩)] W fun e w' => e = .returned (.int .i64 (r : Int)) ∧ Below W.heap.size W w') := fun W hW => by
    have := rrounds_fun ws kc (by omega) (by omega) W (hc.up hW)
    rw [hrd] at this
    exact this
  have MX : Hid (∀ s W, A.ok 16 s → Calls Try.prog 46 #[aB (A.gridL s), .agg #[b8 2, b8 3, b8 1, b8 1]] W fun e w' => e = .returned (aB (A.gridL (A.mixAll s))) ∧ Below W.heap.size W w') := fun s W hs => by
    have := rmixed_fun (A.gridL s) [2, 3, 1, 1] (A.gridL_ok hs) (G.four_mk (by decide) (by decide) (by decide) (by decide)) W
    rw [A.mix_grid hs] at this
    exact this
  have UG : Hid _ := rungrid_fun (A.gridL (E r)) (A.gridL_ok (EOK.out r (Nat.le_refl _)))
  rw [A.grid_grid (EOK.out r (Nat.le_refl _))] at UG
  have E0 : Hid (A.addK b (A.rk ws 0) = E 0) := by rw [hE]; exact rfl
  have ES : Hid (∀ j, A.addK (if j + 1 = r then A.shift (A.subAll (E j)) else A.mixAll (A.shift (A.subAll (E j)))) (A.rk ws (j + 1)) = E (j + 1)) := fun j => by rw [hE, hE]; exact rfl
  have HB : Hid (A.ok 16 b) := hb
  obtain ⟨x0, x1, x2⟩ := al2 w (b.map b8).toArray #[Value.int IntKind.u8 0, Value.int IntKind.u8 0, Value.int IntKind.u8 0, Value.int IntKind.u8 0, Value.int IntKind.u8 0, Value.int IntKind.u8 0, Value.int IntKind.u8 0, Value.int IntKind.u8 0, Value.int IntKind.u8 0, Value.int IntKind.u8 0, Value.int IntKind.u8 0, Value.int IntKind.u8 0, Value.int IntKind.u8 0, Value.int IntKind.u8 0, Value.int IntKind.u8 0, Value.int IntKind.u8 0] 57 57
  have X0 : Hid (Blk _ w.heap.size (b.map b8)) := x0
  have X1 : Hid (Blk _ (w.heap.size + 1) (zB 16)) := x1
  have X2 : Hid (Below w.heap.size w _) := x2
  clear x0 x1 x2 hw hb hc hE EF hl hrd
  go_enter Try.func28, Try.ntmps28
  go_wp2_with (refine wpList_load_mid rfl 57 (.tmp 3) rfl w.heap.size 0 rfl (b.map b8) _ X0.out.all u_a16 rfl (info_n info_a16 b HB.out.1) ?_)
  generalize World.alloc (w.alloc _) _ = w1 at *
  refine Calls.mono (GR.out w1) ?_
  rintro e w2 ⟨rfl, hb2⟩
  have D2 : Hid (Below w.heap.size w w2) := X2.out.trans (hb2.mono X2.out.size)
  have Y2 : Hid (Blk w2 (w.heap.size + 1) (zB 16)) := X1.out.up hb2 X1.out.lt
  clear hb2 X0 X1 X2 GR
  have A0 : Hid _ := AD.out b 0 w2 HB.out (Nat.zero_le _) D2.out
  rw [E0.out] at A0
  go_wp2_with fail
  refine Calls.mono A0.out ?_
  rintro e w3 ⟨rfl, hb3⟩
  have D3 : Hid (Below w.heap.size w w3) := D2.out.trans (hb3.mono D2.out.size)
  have Y3 : Hid (Blk w3 (w.heap.size + 1) (zB 16)) := Y2.out.up hb3 Y2.out.lt
  clear hb3 D2 Y2 A0
  have L0 : Hid ((A.gridL (E 0)).length = 16) := A.by_length _ _
  have T3 : Hid (∀ C t, C.size = 16 → World.there (w3.alloc (.cells C t)) w3.heap.size 0 ((A.gridL (E 0)).map b8).length) := fun C t hC => (al1 w3 C t).1.there (by rw [List.length_map, L0.out, Array.length_toList, hC]; omega)
  obtain ⟨g0, hg0⟩ : ∃ g0, g0 = A.gridL (E 0) := ⟨_, rfl⟩
  rw [← hg0] at L0 T3 ⊢
  have HG0 : Hid (g0 = A.gridL (E 0)) := hg0
  clear hg0
  go_wp2_with (refine wp_store_eq rfl 75 (.tmp 5) (.tmp 13) rfl w3.heap.size 0 (g0.map b8) rfl rfl (T3.out _ _ rfl) (info_n info_g16 g0 L0.out) (one_b8 _) ?_)
  intro w4 hw4
  obtain ⟨b4, h4⟩ : Blk w4 w3.heap.size (g0.map b8) ∧ Below w3.heap.size w3 w4 := by
    rw [hw4.out]
    exact alst w3 _ _ _ (by rw [List.length_map, L0.out]; rfl)
  have D4 : Hid (Below w.heap.size w w4) := D3.out.trans (h4.mono D3.out.size)
  have Y4 : Hid (Blk w4 (w.heap.size + 1) (zB 16)) := Y3.out.up h4 Y3.out.lt
  rw [HG0.out] at b4
  have Z4 : Hid (Blk w4 w3.heap.size ((A.gridL (E 0)).map b8)) := b4
  have NK : Hid (w.heap.size + 1 < w3.heap.size) := Y3.out.lt
  clear hw4 b4 h4 D3 Y3 T3 L0 HG0
  generalize w3.heap.size = kg at *
  go_wp2_with fail
  go_loopw [6] (fun i wr => ∃ j : Nat, j ≤ r ∧ i = .int .i64 ((j : Int) + 1) ∧ Hid (Blk wr kg ((A.gridL (E j)).map b8)) ∧ Hid (Blk wr (w.heap.size + 1) (zB 16)) ∧ Hid (Below w.heap.size w wr)) (fun i _ => r + 1 - (intOf i).toNat)
  case atStart => exact ⟨0, Nat.zero_le _, rfl, Z4, Y4, D4⟩
  case round =>
    clear Z4 Y4 D4
    obtain ⟨j, hj, rfl, Z4, Y4, D4⟩ := hrel
    have HJ : Hid (j ≤ r) := hj
    go_wp2_with fail
    refine Calls.mono (RN.out wr D4.out) ?_
    rintro e w5 ⟨rfl, hb5⟩
    have D5 : Hid (Below w.heap.size w w5) := D4.out.trans (hb5.mono D4.out.size)
    have Y5 : Hid (Blk w5 (w.heap.size + 1) (zB 16)) := Y4.out.up hb5 Y4.out.lt
    have Z5 : Hid (Blk w5 kg ((A.gridL (E j)).map b8)) := Z4.out.up hb5 Z4.out.lt
    clear hb5 D4 Y4 Z4
    by_cases hj1 : j < r
    · have le1 : (j : Int) + 1 ≤ (r : Int) := by omega
      have J1 : Hid (j < r) := hj1
      have OK := EOK.out j hj
      obtain ⟨new, hnew⟩ : ∃ new : Nat → Nat, new = fun p => G.sub ((A.gridL (E j)).getD (p / 4 * 4 + (p % 4 + p / 4) % 4) 0) := ⟨_, rfl⟩
      have NS : Hid (A.by_ 16 new = A.gridL (A.shift (A.subAll (E j)))) := by rw [hnew]; exact A.sub_grid (E j)
      have SOK : Hid (A.ok 16 (A.shift (A.subAll (E j)))) := A.shift_ok (A.subAll_ok _)
      obtain ⟨gl, hgl⟩ : ∃ gl, gl = A.gridL (E j) := ⟨_, rfl⟩
      have GL : Hid (A.ok 16 gl) := by rw [hgl]; exact A.gridL_ok OK
      have NW : Hid (∀ i k, i < 4 → k < 4 → G.sub (gl.getD (i * 4 + (k + i) % 4) 0) = new (i * 4 + k)) := fun i k hi hk => by
        rw [hnew, hgl]
        show _ = G.sub ((A.gridL (E j)).getD ((i * 4 + k) / 4 * 4 + ((i * 4 + k) % 4 + (i * 4 + k) / 4) % 4) 0)
        rw [show (i * 4 + k) / 4 = i by omega, show (i * 4 + k) % 4 = k by omega]
      rw [← hgl] at Z5
      have SE : Hid _ := ES.out j
      clear OK hnew hj hj1
      have y0 := midL_zeros new
      have zz := zero16 (w := w5)
      rw [← y0] at zz
      have b5 := (al1 w5 #[Value.int IntKind.u8 0, Value.int IntKind.u8 0, Value.int IntKind.u8 0, Value.int IntKind.u8 0, Value.int IntKind.u8 0, Value.int IntKind.u8 0, Value.int IntKind.u8 0, Value.int IntKind.u8 0, Value.int IntKind.u8 0, Value.int IntKind.u8 0, Value.int IntKind.u8 0, Value.int IntKind.u8 0, Value.int IntKind.u8 0, Value.int IntKind.u8 0, Value.int IntKind.u8 0, Value.int IntKind.u8 0] 75).2
      have H0 : Hid (Blk (w5.alloc (.cells #[Value.int IntKind.u8 0, Value.int IntKind.u8 0, Value.int IntKind.u8 0, Value.int IntKind.u8 0, Value.int IntKind.u8 0, Value.int IntKind.u8 0, Value.int IntKind.u8 0, Value.int IntKind.u8 0, Value.int IntKind.u8 0, Value.int IntKind.u8 0, Value.int IntKind.u8 0, Value.int IntKind.u8 0, Value.int IntKind.u8 0, Value.int IntKind.u8 0, Value.int IntKind.u8 0, Value.int IntKind.u8 0] 75)) w5.heap.size ((A.midL (fun _ => 0) new (4 * 0)).map b8)) := zz
      have D6 : Hid (Below w.heap.size w _) := D5.out.trans (b5.mono D5.out.size)
      have Y6 : Hid (Blk _ (w.heap.size + 1) (zB 16)) := Y5.out.up b5 Y5.out.lt
      have Z6 : Hid (Blk _ kg (gl.map b8)) := Z5.out.up b5 Z5.out.lt
      have NH : Hid (kg < w5.heap.size ∧ w.heap.size + 1 < w5.heap.size) := ⟨Z5.out.lt, Y5.out.lt⟩
      clear zz y0 b5 D5 Y5 Z5
      go_wp2_with fail
      generalize w5.alloc _ = w6 at *
      generalize w5.heap.size = kh at *
      go_loopw [20] (fun i wr => ∃ q : Nat, q ≤ 4 ∧ i = .int .i64 (q : Int) ∧ Hid (Blk wr kh ((A.midL (fun _ => 0) new (4 * q)).map b8)) ∧ Hid (Blk wr kg (gl.map b8)) ∧ Hid (Blk wr (w.heap.size + 1) (zB 16)) ∧ Hid (Below w.heap.size w wr)) (fun i _ => 4 - (intOf i).toNat)
      case atStart => exact ⟨0, by omega, rfl, H0, Z6, Y6, D6⟩
      case round =>
        clear H0 Z6 Y6 D6
        obtain ⟨q, hq, rfl, H0, Z6, Y6, D6⟩ := hrel
        by_cases hq1 : q < 4
        · have q1 : (q : Int) < 4 := by omega
          have wq : IntKind.i64.wrap ((q : Int) + 1) = (q : Int) + 1 := by rw [IntKind.wrap_i64]; omega
          have Q4 : Hid (q < 4) := hq1
          have H1 : Hid (Blk wr kh ((A.midL (fun _ => 0) new (4 * q + 0)).map b8)) := H0
          clear H0 hq hq1
          go_wp2_with fail
          go_loopw [23] (fun i wr => ∃ k : Nat, k ≤ 4 ∧ i = .int .i64 (k : Int) ∧ Hid (Blk wr kh ((A.midL (fun _ => 0) new (4 * q + k)).map b8)) ∧ Hid (Blk wr kg (gl.map b8)) ∧ Hid (Blk wr (w.heap.size + 1) (zB 16)) ∧ Hid (Below w.heap.size w wr)) (fun i _ => 4 - (intOf i).toNat)
          case atStart => exact ⟨0, by omega, rfl, H1, Z6, Y6, D6⟩
          case round =>
            clear H1 Z6 Y6 D6
            obtain ⟨k, hk, rfl, H0, Z6, Y6, D6⟩ := hrel
            by_cases hk1 : k < 4
            · have k1 : (k : Int) < 4 := by omega
              have wk : IntKind.i64.wrap ((k : Int) + 1) = (k : Int) + 1 := by rw [IntKind.wrap_i64]; omega
              obtain ⟨m, hm⟩ : ∃ m, m = (k + q) % 4 := ⟨_, rfl⟩
              have Q4' := Q4.out
              have wa : IntKind.i64.wrap ((k : Int) + (q : Int)) = (k : Int) + (q : Int) := by rw [IntKind.wrap_i64]; omega
              have m1 : ((k : Int) + (q : Int)).tmod 4 = (m : Int) := by rw [Int.tmod_eq_emod_of_nonneg (by omega)]; omega
              have m2 : ((k : Int) + (q : Int)) % 4 = (m : Int) := by omega
              have m4 : (m : Int) < 4 := by omega
              have nv := NW.out q k Q4.out hk1
              rw [← hm] at nv
              have gv1 := GL.out.at (q * 4 + m)
              have cg : Hid (∀ W, Below wr.heap.size wr W → W.cell? ⟨kg, q * 4 + m, none⟩ = some (b8 (gl.getD (q * 4 + m) 0))) := fun W hW => (Z6.out.up hW Z6.out.lt).byte _ (by rw [GL.out.1]; omega)
              have cb : Hid (∀ W, Below wr.heap.size wr W → W.cell? ⟨kc, 1 + gl.getD (q * 4 + m) 0, none⟩ = some (b8 (new (q * 4 + k)))) := fun W hW => by
                rw [← nv]
                exact (CU.out W (D6.out.trans (hW.mono D6.out.size))).box _ gv1
              have P16 : Hid (4 * q + k = q * 4 + k ∧ q * 4 + k < 16) := by show _ ∧ _; omega
              have ch : Hid (∀ W, Below wr.heap.size wr W → W.cell? ⟨kh, q * 4 + k, none⟩ = some (b8 0)) := fun W hW => by
                have h1 := (H0.out.up hW H0.out.lt).byte (q * 4 + k) (by rw [A.midL_length]; exact P16.out.2)
                rw [P16.out.1, A.midL_at _ _ P16.out.2] at h1
                exact h1
              have US : Hid (∀ W, Blk W kh ((A.midL (fun _ => 0) new (4 * q + k)).map b8) → Blk (W.setCell ⟨kh, q * 4 + k, none⟩ (b8 (new (q * 4 + k)))) kh ((A.midL (fun _ => 0) new (4 * q + (k + 1))).map b8)) := fun W h => by
                rw [← Nat.add_assoc, P16.out.1, ← A.midL_set _ new P16.out.2]
                rw [P16.out.1] at h
                exact h.setB _ _ (by rw [A.midL_length]; exact P16.out.2)
              have K4 : Hid (k < 4) := hk1
              generalize new (q * 4 + k) = nw at *
              generalize gl.getD (q * 4 + m) 0 = gv at *
              have gv2 : (gv : Int) < 256 := by omega
              clear hm hk hk1 Q4' P16 nv gv1
              go_wp2_with fail
              refine wp_region_monoSE 17 [MP.eq (.int .i64 (q : Int)), MP.eq (.int .i64 (k : Int)), MP.eq (.pointer (some ⟨kc, 0, none⟩)), MP.eq (.int .i64 (q : Int)), MP.eq (.int .i64 (k : Int)), MP.eq (.int .i64 (q : Int)), MP.eq (.int .i64 ((k : Int) + (q : Int))), MP.eq (.int .i64 (m : Int)), MP.eq (.pointer (some ⟨kg, q * 4, none⟩)), MP.eq (.pointer (some ⟨kg, q * 4 + m, none⟩)), MP.eq (b8 gv), MP.eq (.pointer (some ⟨kc, 0, none⟩)), MP.eq (.pointer (some ⟨kc, 1, none⟩)), MP.eq (.pointer (some ⟨kc, 1 + gv, none⟩)), MP.eq (b8 nw), MP.eq (.pointer (some ⟨kh, q * 4, none⟩)), MP.eq (.pointer (some ⟨kh, q * 4 + k, none⟩))] (by kernel_rfl) (by kernel_rfl) rfl (by decide) (by kernel_rfl) ?_
              apply Exists.intro
              refine ⟨fun vals => ?_, ?_, fun vals8 w8 hb8 hF hO => ?_⟩
              · simp only [putsV, dstL, List.length_cons, List.length_nil, Nat.zero_add, Nat.reduceAdd, List.getElem?_cons_zero, List.getElem?_cons_succ, Option.bind_some, Act.put, List.setIfInBounds_toArray, List.set_cons_succ, List.set_cons_zero]
                rfl
              · refine ⟨?_, ?_, ?_, ?_, ?_, ?_, ?_, ?_, ?_, ?_, ?_, ?_, ?_, ?_, ?_, ?_, ?_, trivial⟩
                · intro vals W hW hw hd
                  try simp [Region.binds] at hd
                  refine ⟨by first | rfl | simp [Region.wanted, yielded, hd], ?_⟩
                  simp [go_sem, hd]
                  exact Below.refl _ _
                · intro vals W hW hw hd
                  try simp [Region.binds] at hd
                  refine ⟨by first | rfl | simp [Region.wanted, yielded, hd], ?_⟩
                  simp [go_sem, hd]
                  exact Below.refl _ _
                · intro vals W hW hw hd
                  try simp [Region.binds] at hd
                  refine ⟨by first | rfl | simp [Region.wanted, yielded, hd], ?_⟩
                  simp [go_sem, hd]
                  exact Below.refl _ _
                · intro vals W hW hw hd
                  try simp [Region.binds] at hd
                  refine ⟨by first | rfl | simp [Region.wanted, yielded, hd], ?_⟩
                  simp [go_sem, hd]
                  exact Below.refl _ _
                · intro vals W hW hw hd
                  try simp [Region.binds] at hd
                  refine ⟨by first | rfl | simp [Region.wanted, yielded, hd], ?_⟩
                  simp [go_sem, hd]
                  exact Below.refl _ _
                · intro vals W hW hw hd
                  try simp [Region.binds] at hd
                  refine ⟨by first | rfl | simp [Region.wanted, yielded, hd], ?_⟩
                  simp [go_sem, hd]
                  exact Below.refl _ _
                · intro vals W hW hw hd
                  try simp [Region.binds] at hd
                  refine ⟨by first | rfl | simp [Region.wanted, yielded, hd], ?_⟩
                  simp [go_sem, hd, wa]
                  exact Below.refl _ _
                · intro vals W hW hw hd
                  try simp [Region.binds] at hd
                  refine ⟨by first | rfl | simp [Region.wanted, yielded, hd], ?_⟩
                  simp [go_sem, hd, m1, m2]
                  exact Below.refl _ _
                · intro vals W hW hw hd
                  try simp [Region.binds] at hd
                  refine ⟨by first | rfl | simp [Region.wanted, yielded, hd], ?_⟩
                  simp [go_sem, hd, q1]
                  exact Below.refl _ _
                · intro vals W hW hw hd
                  try simp [Region.binds] at hd
                  refine ⟨by first | rfl | simp [Region.wanted, yielded, hd], ?_⟩
                  simp [go_sem, hd, m4]
                  exact Below.refl _ _
                · intro vals W hW hw hd
                  try simp [Region.binds] at hd
                  refine ⟨by first | rfl | simp [Region.wanted, yielded, hd], ?_⟩
                  have cc := cg.out W hW.out
                  simp [go_sem, hd, cc]
                  exact Below.refl _ _
                · intro vals W hW hw hd
                  try simp [Region.binds] at hd
                  refine ⟨by first | rfl | simp [Region.wanted, yielded, hd], ?_⟩
                  simp [go_sem, hd]
                  exact Below.refl _ _
                · intro vals W hW hw hd
                  try simp [Region.binds] at hd
                  refine ⟨by first | rfl | simp [Region.wanted, yielded, hd], ?_⟩
                  simp [go_sem, hd]
                  exact Below.refl _ _
                · intro vals W hW hw hd
                  try simp [Region.binds] at hd
                  refine ⟨by first | rfl | simp [Region.wanted, yielded, hd], ?_⟩
                  simp [go_sem, hd, gv2]
                  exact Below.refl _ _
                · intro vals W hW hw hd
                  try simp [Region.binds] at hd
                  refine ⟨by first | rfl | simp [Region.wanted, yielded, hd], ?_⟩
                  have cc := cb.out W hW.out
                  simp [go_sem, hd, cc]
                  exact Below.refl _ _
                · intro vals W hW hw hd
                  try simp [Region.binds] at hd
                  refine ⟨by first | rfl | simp [Region.wanted, yielded, hd], ?_⟩
                  simp [go_sem, hd, q1]
                  exact Below.refl _ _
                · intro vals W hW hw hd
                  try simp [Region.binds] at hd
                  refine ⟨by first | rfl | simp [Region.wanted, yielded, hd], ?_⟩
                  simp [go_sem, hd, k1]
                  exact Below.refl _ _
              obtain ⟨f0, f1, f2, f3, f4, f5, f6, f7, f8, f9, f10, f11, f12, f13, f14, f15, f16, _⟩ := hF
              simp only [MP.eq_p] at f0 f1 f2 f3 f4 f5 f6 f7 f8 f9 f10 f11 f12 f13 f14 f15 f16
              rw [f0, f1, f2, f3, f4, f5, f6, f7, f8, f9, f10, f11, f12, f13, f14, f15, f16]
              simp only [List.drop_succ_cons, List.drop_zero]
              have c8 := ch.out w8 hb8.out
              have z8 := (H0.out.up hb8.out H0.out.lt).fz (q * 4 + k)
              have V0 : Hid _ := US.out w8 (H0.out.up hb8.out H0.out.lt)
              have V1 : Hid _ := (Z6.out.up hb8.out Z6.out.lt).apart1 (k' := kh) (o := q * 4 + k) (v := b8 nw) (by have := NH.out; omega)
              have V2 : Hid _ := (Y6.out.up hb8.out Y6.out.lt).apart1 (k' := kh) (o := q * 4 + k) (v := b8 nw) (by have := NH.out; omega)
              have V3 : Hid _ := (D6.out.trans (hb8.out.mono D6.out.size)).setCell (p := ⟨kh, q * 4 + k, none⟩) (by show w.heap.size ≤ kh; have := NH.out; omega) (b8 nw)
              clear f0 f1 f2 f3 f4 f5 f6 f7 f8 f9 f10 f11 f12 f13 f14 f15 f16 hb8 hO H0 Z6 Y6 D6 cg cb ch US
              go_wp2_with fail
              go_roundw
              case rel => exact ⟨k + 1, K4.out, by first | rfl | go_num, V0, V1, V2, V3⟩
              case measure => have := K4.out; simp [intOf]; omega
            · obtain rfl : k = 4 := by omega
              clear hk hk1
              go_wp2_with fail
              go_roundw
              case rel => exact ⟨q + 1, Q4.out, by first | rfl | go_num, by rw [show 4 * (q + 1) = 4 * q + 4 by omega]; exact H0, Z6, Y6, D6⟩
              case measure => have := Q4.out; simp [intOf]; omega
        · obtain rfl : q = 4 := by omega
          rw [show 4 * 4 = 16 from rfl, A.midL_all, NS.out] at H0
          clear hq hq1 NS NW
          have JL : j + 1 ≤ r := J1.out
          have cast1 : (((j + 1 : Nat) : Nat) : Int) = (j : Int) + 1 := by omega
          have MT : Hid _ := fun W => MX.out (A.shift (A.subAll (E j))) W SOK.out
          have A1 : Hid (j + 1 = r → ∀ W, Below w.heap.size w W → Calls Try.prog 43 #[.pointer (some ⟨kc, 0, none⟩), aB (A.gridL (A.shift (A.subAll (E j)))), .int .i64 ((j : Int) + 1)] W fun e w' => e = .returned (aB (A.gridL (E (j + 1)))) ∧ Below W.heap.size W w') := fun h W hW => by
            have h1 := AD.out (A.shift (A.subAll (E j))) (j + 1) W SOK.out JL hW
            have h2 := SE.out
            rw [if_pos h] at h2
            rw [h2, cast1] at h1
            exact h1
          have A2 : Hid (¬ j + 1 = r → ∀ W, Below w.heap.size w W → Calls Try.prog 43 #[.pointer (some ⟨kc, 0, none⟩), aB (A.gridL (A.mixAll (A.shift (A.subAll (E j))))), .int .i64 ((j : Int) + 1)] W fun e w' => e = .returned (aB (A.gridL (E (j + 1)))) ∧ Below W.heap.size W w') := fun h W hW => by
            have h1 := AD.out (A.mixAll (A.shift (A.subAll (E j)))) (j + 1) W (A.mixAll_ok SOK.out) JL hW
            have h2 := SE.out
            rw [if_neg h] at h2
            rw [h2, cast1] at h1
            exact h1
          have L1 : Hid ((A.gridL (A.shift (A.subAll (E j)))).length = 16) := A.by_length _ _
          have L2 : Hid ((A.gridL (A.mixAll (A.shift (A.subAll (E j))))).length = 16) := A.by_length _ _
          have L3 : Hid ((A.gridL (E (j + 1))).length = 16) := A.by_length _ _
          obtain ⟨g2, hg2⟩ : ∃ g2, g2 = A.gridL (A.mixAll (A.shift (A.subAll (E j)))) := ⟨_, rfl⟩
          rw [← hg2] at MT A2 L2
          obtain ⟨g1, hg1⟩ : ∃ g1, g1 = A.gridL (A.shift (A.subAll (E j))) := ⟨_, rfl⟩
          rw [← hg1] at MT A1 L1 H0
          obtain ⟨g3, hg3⟩ : ∃ g3, g3 = A.gridL (E (j + 1)) := ⟨_, rfl⟩
          rw [← hg3] at A1 A2 L3
          have HG3 : Hid (g3 = A.gridL (E (j + 1))) := hg3
          have GLL : Hid (gl.length = 16) := GL.out.1
          have B4 : Hid _ := built4 2 3 1 1
          have wj1 : IntKind.i64.wrap ((j : Int) + 1 + 1) = (j : Int) + 1 + 1 := by rw [IntKind.wrap_i64]; omega
          clear hg1 hg2 hg3 SE SOK cast1 JL hgl GL
          go_wp2_with fail
          refine Calls.mono (RN.out wr D6.out) ?_
          rintro e w7 ⟨rfl, hb7⟩
          have H7 : Hid (Blk w7 kh (g1.map b8)) := H0.out.up hb7 H0.out.lt
          have Z7 : Hid (Blk w7 kg (gl.map b8)) := Z6.out.up hb7 Z6.out.lt
          have Y7 : Hid (Blk w7 (w.heap.size + 1) (zB 16)) := Y6.out.up hb7 Y6.out.lt
          have D7 : Hid (Below w.heap.size w w7) := D6.out.trans (hb7.mono D6.out.size)
          clear hb7 H0 Z6 Y6 D6
          by_cases hjr : j + 1 = r
          · have nlt : ¬ (j : Int) + 1 < (r : Int) := by omega
            have AX : Hid _ := A1.out hjr
            clear hjr A1 A2 MT
            go_wp2_with (refine wpList_load_mid rfl 75 (.tmp 7) rfl kh 0 rfl (g1.map b8) _ H7.out.all u_g16 rfl (info_n info_g16 g1 L1.out) ?_)
            refine Calls.mono (AX.out w7 D7.out) ?_
            rintro e w9 ⟨rfl, hb9⟩
            have Z9 : Hid (Blk w9 kg (gl.map b8)) := Z7.out.up hb9 Z7.out.lt
            have Y9 : Hid (Blk w9 (w.heap.size + 1) (zB 16)) := Y7.out.up hb9 Y7.out.lt
            have D9 : Hid (Below w.heap.size w w9) := D7.out.trans (hb9.mono D7.out.size)
            clear hb9 H7 Z7 Y7 D7 AX
            have T9 : Hid (w9.there kg 0 (g3.map b8).length) := Z9.out.there (by rw [List.length_map, List.length_map, L3.out, GLL.out]; omega)
            go_wp2_with (refine wp_store_eq rfl 75 (.tmp 5) (.tmp 55) rfl kg 0 (g3.map b8) rfl rfl T9.out (info_n info_g16 g3 L3.out) (one_b8 _) ?_)
            intro w10 hw10
            have Z10 : Hid (Blk w10 kg (g3.map b8)) := by
              rw [hw10.out]
              have h1 : Blk w9 kg ([] ++ (gl.map b8 ++ [])) := by simpa using Z9.out
              have h2 := h1.store (o := 0) (b' := g3.map b8) rfl (by rw [List.length_map, List.length_map, L3.out, GLL.out])
              rw [List.nil_append, List.append_nil] at h2
              exact h2
            have Y10 : Hid (Blk w10 (w.heap.size + 1) (zB 16)) := by rw [hw10.out]; exact Y9.out.apart (by have := NK.out; omega)
            have D10 : Hid (Below w.heap.size w w10) := by rw [hw10.out]; exact below_setCells _ _ _ D9.out (by have := NK.out; omega)
            clear hw10 T9 Z9 Y9 D9
            go_wp2_with fail
            go_roundw
            case rel => exact ⟨j + 1, J1.out, by first | rfl | go_num, by rw [← HG3.out]; exact Z10, Y10, D10⟩
            case measure => have := J1.out; simp [intOf]; omega
          · have lt1 : (j : Int) + 1 < (r : Int) := by have := J1.out; omega
            have AX : Hid _ := A2.out hjr
            clear hjr A1 A2
            go_wp2_with (first | refine wpList_load_mid rfl 75 (.tmp 7) rfl kh 0 rfl (g1.map b8) _ H7.out.all u_g16 rfl (info_n info_g16 g1 L1.out) ?_ | refine wp_build4 rfl 2 3 1 1 rfl B4.out ?_)
            refine Calls.mono (MT.out w7) ?_
            rintro e w8 ⟨rfl, hb8⟩
            have H8 : Hid (Blk w8 kh (g1.map b8)) := H7.out.up hb8 H7.out.lt
            have Z8 : Hid (Blk w8 kg (gl.map b8)) := Z7.out.up hb8 Z7.out.lt
            have Y8 : Hid (Blk w8 (w.heap.size + 1) (zB 16)) := Y7.out.up hb8 Y7.out.lt
            have D8 : Hid (Below w.heap.size w w8) := D7.out.trans (hb8.mono D7.out.size)
            clear hb8 H7 Z7 Y7 D7 MT
            have TM : Hid (w8.there kh 0 (g2.map b8).length) := H8.out.there (by rw [List.length_map, List.length_map, L2.out, L1.out]; omega)
            go_wp2_with (refine wp_store_eq rfl 75 (.tmp 7) (.tmp 51) rfl kh 0 (g2.map b8) rfl rfl TM.out (info_n info_g16 g2 L2.out) (one_b8 _) ?_)
            intro w7 hw7
            have H7 : Hid (Blk w7 kh (g2.map b8)) := by
              rw [hw7.out]
              have h1 : Blk w8 kh ([] ++ (g1.map b8 ++ [])) := by simpa using H8.out
              have h2 := h1.store (o := 0) (b' := g2.map b8) rfl (by rw [List.length_map, List.length_map, L2.out, L1.out])
              rw [List.nil_append, List.append_nil] at h2
              exact h2
            have Z7 : Hid (Blk w7 kg (gl.map b8)) := by rw [hw7.out]; exact Z8.out.apart (by have := NH.out; omega)
            have Y7 : Hid (Blk w7 (w.heap.size + 1) (zB 16)) := by rw [hw7.out]; exact Y8.out.apart (by have := NH.out; omega)
            have D7 : Hid (Below w.heap.size w w7) := by rw [hw7.out]; exact below_setCells _ _ _ D8.out (by have := NH.out; omega)
            clear hw7 H8 Z8 Y8 D8 TM
            go_wp2_with (refine wpList_load_mid rfl 75 (.tmp 7) rfl kh 0 rfl (g2.map b8) _ H7.out.all u_g16 rfl (info_n info_g16 g2 L2.out) ?_)
            refine Calls.mono (AX.out w7 D7.out) ?_
            rintro e w9 ⟨rfl, hb9⟩
            have Z9 : Hid (Blk w9 kg (gl.map b8)) := Z7.out.up hb9 Z7.out.lt
            have Y9 : Hid (Blk w9 (w.heap.size + 1) (zB 16)) := Y7.out.up hb9 Y7.out.lt
            have D9 : Hid (Below w.heap.size w w9) := D7.out.trans (hb9.mono D7.out.size)
            clear hb9 H7 Z7 Y7 D7 AX
            have T9 : Hid (w9.there kg 0 (g3.map b8).length) := Z9.out.there (by rw [List.length_map, List.length_map, L3.out, GLL.out]; omega)
            go_wp2_with (refine wp_store_eq rfl 75 (.tmp 5) (.tmp 55) rfl kg 0 (g3.map b8) rfl rfl T9.out (info_n info_g16 g3 L3.out) (one_b8 _) ?_)
            intro w10 hw10
            have Z10 : Hid (Blk w10 kg (g3.map b8)) := by
              rw [hw10.out]
              have h1 : Blk w9 kg ([] ++ (gl.map b8 ++ [])) := by simpa using Z9.out
              have h2 := h1.store (o := 0) (b' := g3.map b8) rfl (by rw [List.length_map, List.length_map, L3.out, GLL.out])
              rw [List.nil_append, List.append_nil] at h2
              exact h2
            have Y10 : Hid (Blk w10 (w.heap.size + 1) (zB 16)) := by rw [hw10.out]; exact Y9.out.apart (by have := NK.out; omega)
            have D10 : Hid (Below w.heap.size w w10) := by rw [hw10.out]; exact below_setCells _ _ _ D9.out (by have := NK.out; omega)
            clear hw10 T9 Z9 Y9 D9
            go_wp2_with fail
            go_roundw
            case rel => exact ⟨j + 1, J1.out, by first | rfl | go_num, by rw [← HG3.out]; exact Z10, Y10, D10⟩
            case measure => have := J1.out; simp [intOf]; omega
    · obtain rfl : j = r := by omega
      have nle : ¬ (j : Int) + 1 ≤ (j : Int) := by omega
      have LL : Hid ((A.gridL (E j)).length = 16) := A.by_length _ _
      obtain ⟨gl, hgl⟩ : ∃ gl, gl = A.gridL (E j) := ⟨_, rfl⟩
      rw [← hgl] at UG LL Z5
      have L2 : Hid ((E j).length = 16) := (EOK.out j (Nat.le_refl _)).1
      clear hgl hj hj1
      go_wp2_with (refine wpList_load_mid rfl 75 (.tmp 5) rfl kg 0 rfl (gl.map b8) _ Z5.out.all u_g16 rfl (info_n info_g16 gl LL.out) ?_)
      refine Calls.mono (UG.out w5) ?_
      rintro e w6 ⟨rfl, hb6⟩
      have D6 : Hid (Below w.heap.size w w6) := D5.out.trans (hb6.mono D5.out.size)
      have Y6 : Hid (Blk w6 (w.heap.size + 1) (zB 16)) := Y5.out.up hb6 Y5.out.lt
      clear hb6 D5 Y5 Z5
      have T6 : Hid (w6.there (w.heap.size + 1) 0 ((E j).map b8).length) := Y6.out.there (by rw [List.length_map, L2.out, zB_length]; omega)
      go_wp2_with (refine wp_store_eq rfl 57 (.tmp 4) (.tmp 57) rfl (w.heap.size + 1) 0 ((E j).map b8) rfl rfl T6.out (info_n info_a16 (E j) L2.out) (one_b8 _) ?_)
      intro w9 hw9
      go_wp2_with fail
      refine bodyPost_ret (v := aB (E j)) ?_ rfl ⟨rfl, ?_⟩
      · rw [hw9.out]
        exact results_cell (b := w.heap.size + 1) rfl rfl (World.rangeAt_setCells_same _ _ _ _ T6.out) u_a16 rfl (info_n info_a16 (E j) L2.out)
      · rw [hw9.out]
        exact below_setCells _ _ _ D6.out (by omega)
end Go.Proofs.Ytejabkmhpiabnaa
