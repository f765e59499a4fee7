/- The contract of sealringref's Cipher.Decrypt. -/
import Derived.Test.YtejabkmhpiabnaaAEnc
namespace Go.Proofs.Ytejabkmhpiabnaa
open Go.RowKit
set_option linter.unusedSimpArgs false
attribute [local go_sem] YieldsP execOp
attribute [local simp] MP.eq_p
namespace A
/-- Where Decrypt's inner loops put the byte of a place, and whence it came. -/
def pl (p : Nat) : Nat := p / 4 * 4 + (p % 4 + p / 4) % 4
def unpl (p : Nat) : Nat := p / 4 * 4 + (p % 4 + (4 - p / 4)) % 4
theorem pls : ∀ p < 16, pl p < 16 ∧ unpl p < 16 ∧ pl (unpl p) = p ∧ unpl (pl p) = p := by decide
theorem pl_at : ∀ q < 4, ∀ k < 4, pl (4 * q + k) = q * 4 + (k + q) % 4 := by decide
theorem unsub_grid (s : List Nat) : (by_ 16 fun p => G.unsub ((gridL s).getD (unpl p) 0)) = gridL (unsubAll (unshift s)) := by
  refine by_congr fun p hp => ?_
  unfold unsubAll unshift
  rw [by_get (tps p hp).1, by_get (tps p hp).1, grid_get s (pls p hp).2.1]
  congr 2
  unfold unturn
  rw [(tp_div hp).1, (tp_div hp).2]
  unfold tp unpl
  omega
theorem un_list {s l : List Nat} (hl : l.length = 16) (h : ∀ p, p < 16 → l.getD (pl p) 0 = G.unsub ((gridL s).getD p 0)) : l = gridL (unsubAll (unshift s)) := by
  rw [← unsub_grid]
  refine list_of l 16 _ hl fun i hi => ?_
  have := h (unpl i) (pls i hi).2.1
  rw [(pls i hi).2.2.1] at this
  exact this
end A
theorem Blk.over {w : World} {k : Nat} {l m : List Nat} (h : Blk w k (l.map b8)) (e : m.length = l.length) : Blk (w.setCells k 0 (m.map b8)) k (m.map b8) := by
  have h1 : Blk w k ([] ++ (l.map b8 ++ [])) := by simpa using h
  have h2 := h1.store (o := 0) (b' := m.map b8) rfl (by rw [List.length_map, List.length_map, e])
  rw [List.nil_append, List.append_nil] at h2
  exact h2
set_option maxRecDepth 20000 in
set_option maxHeartbeats 2000000 in
theorem rdecrypt_fun (ws : List (List Nat)) (hw : A.okW ws) (r : Nat) (hl : ws.length = 4 * (r + 1)) (hz : r ≤ 20) (b : List Nat) (hb : A.ok 16 b) (kc : Nat) (w : World) (hc : Cph w kc ws) :
    Calls Try.prog 34 #[.pointer (some ⟨kc, 0, none⟩), aB b] w fun e w' => e = .returned (aB (A.decS ws b)) ∧ Below w.heap.size w w' := by
  have hrd : ws.length / 4 - 1 = r := by omega
  obtain ⟨Dn, hD⟩ : ∃ Dn : Nat → List Nat, ∀ k, Dn k = A.decN (A.rk ws) r b k := ⟨_, fun _ => rfl⟩
  have DOK : Hid (∀ k, A.ok 16 (Dn k)) := fun k => by rw [hD]; exact A.decN_ok hb k
  obtain ⟨fin, hfin⟩ : ∃ fin, fin = A.addK (Dn r) (A.rk ws 0) := ⟨_, rfl⟩
  have EF : Hid (A.decS ws b = fin) := by rw [A.decS, hrd, A.decR, ← hD, hfin]; exact rfl
  rw [EF.out]
  have CU : Hid (∀ W, Below w.heap.size w W → Cph W kc ws) := fun W hW => hc.up hW
  have GR : Hid _ := rgrid_fun b hb
  have AD : Hid (∀ s rd W, A.ok 16 s → rd ≤ r → Below w.heap.size w W → Calls Try.prog 43 #[.pointer (some ⟨kc, 0, none⟩), aB (A.gridL s), .int .i64 (rd : Int)] W fun e w' => e = .returned (aB (A.gridL (A.addK s (A.rk ws rd)))) ∧ Below W.heap.size W w') := fun s rd W hs hrd hW => by
    have := radd_fun ws hw (A.gridL s) (A.gridL_ok hs) rd (by omega) (by omega) kc W (hc.up hW)
    rw [A.add_grid] at this
    exact this
  have RN : Hid (∀ W, Below w.heap.size w W → Calls Try.prog 45 #[.pointer (some ⟨kc, 0, none⟩)] W fun e w' => e = .returned (.int .i64 (r : Int)) ∧ Below W.heap.size W w') := fun W hW => by
    have := rrounds_fun ws kc (by omega) (by omega) W (hc.up hW)
    rw [hrd] at this
    exact this
  have MX : Hid (∀ s W, A.ok 16 s → Calls Try.prog 46 #[aB (A.gridL s), .agg #[b8 14, b8 11, b8 13, b8 9]] W fun e w' => e = .returned (aB (A.gridL (A.unmixAll s))) ∧ Below W.heap.size W w') := fun s W hs => by
    have := rmixed_fun (A.gridL s) [14, 11, 13, 9] (A.gridL_ok hs) (G.four_mk (by decide) (by decide) (by decide) (by decide)) W
    rw [A.unmix_grid hs] at this
    exact this
  have KO : Hid (∀ j, A.ok 16 (A.rk ws j)) := fun j => A.rk_ok hw j
  have D0 : Hid (Dn 0 = b) := by rw [hD]; exact rfl
  have DS : Hid (∀ k, Dn (k + 1) = A.unsubAll (A.unshift (if r - k = r then A.addK (Dn k) (A.rk ws (r - k)) else A.unmixAll (A.addK (Dn k) (A.rk ws (r - k)))))) := fun k => by rw [hD, hD]; exact rfl
  have FOK : Hid (A.ok 16 fin) := by rw [hfin]; exact A.addK_ok (DOK.out r) (A.rk_ok hw 0)
  have AF : Hid (∀ W, Below w.heap.size w W → Calls Try.prog 43 #[.pointer (some ⟨kc, 0, none⟩), aB (A.gridL (Dn r)), .int .i64 0] W fun e w' => e = .returned (aB (A.gridL fin)) ∧ Below W.heap.size W w') := fun W hW => by
    rw [hfin]
    exact AD.out (Dn r) 0 W (DOK.out r) (Nat.zero_le _) hW
  have UG : Hid _ := rungrid_fun (A.gridL fin) (A.gridL_ok FOK.out)
  rw [A.grid_grid FOK.out] at UG
  obtain ⟨gf, hgf⟩ : ∃ gf, gf = A.gridL fin := ⟨_, rfl⟩
  rw [← hgf] at UG AF
  have HB : Hid (A.ok 16 b) := hb
  obtain ⟨x0, x1, x2⟩ := al2 w (b.map b8).toArray #[Value.int IntKind.u8 0, Value.int IntKind.u8 0, Value.int IntKind.u8 0, Value.int IntKind.u8 0, Value.int IntKind.u8 0, Value.int IntKind.u8 0, Value.int IntKind.u8 0, Value.int IntKind.u8 0, Value.int IntKind.u8 0, Value.int IntKind.u8 0, Value.int IntKind.u8 0, Value.int IntKind.u8 0, Value.int IntKind.u8 0, Value.int IntKind.u8 0, Value.int IntKind.u8 0, Value.int IntKind.u8 0] 57 57
  have X0 : Hid (Blk _ w.heap.size (b.map b8)) := x0
  have X1 : Hid (Blk _ (w.heap.size + 1) (zB 16)) := x1
  have X2 : Hid (Below w.heap.size w _) := x2
  clear x0 x1 x2 hw hb hc hD EF hl hrd hfin hgf
  go_enter Try.func34, Try.ntmps34
  go_wp2_with (refine wpList_load_mid rfl 57 (.tmp 3) rfl w.heap.size 0 rfl (b.map b8) _ X0.out.all u_a16 rfl (info_n info_a16 b HB.out.1) ?_)
  generalize World.alloc (w.alloc _) _ = w1 at *
  refine Calls.mono (GR.out w1) ?_
  rintro e w3 ⟨rfl, hb3⟩
  have D3 : Hid (Below w.heap.size w w3) := X2.out.trans (hb3.mono X2.out.size)
  have Y3 : Hid (Blk w3 (w.heap.size + 1) (zB 16)) := X1.out.up hb3 X1.out.lt
  clear hb3 X0 X1 X2 GR
  have L0 : Hid ((A.gridL b).length = 16) := A.by_length _ _
  have T3 : Hid (∀ C t, C.size = 16 → World.there (w3.alloc (.cells C t)) w3.heap.size 0 ((A.gridL b).map b8).length) := fun C t hC => (al1 w3 C t).1.there (by rw [List.length_map, L0.out, Array.length_toList, hC]; omega)
  obtain ⟨g0, hg0⟩ : ∃ g0, g0 = A.gridL b := ⟨_, rfl⟩
  rw [← hg0] at L0 T3 ⊢
  have HG0 : Hid (g0 = A.gridL b) := hg0
  clear hg0
  go_wp2_with (refine wp_store_eq rfl 75 (.tmp 5) (.tmp 11) rfl w3.heap.size 0 (g0.map b8) rfl rfl (T3.out _ _ rfl) (info_n info_g16 g0 L0.out) (one_b8 _) ?_)
  intro w4 hw4
  obtain ⟨b4, h4⟩ : Blk w4 w3.heap.size (g0.map b8) ∧ Below w3.heap.size w3 w4 := by
    rw [hw4.out]
    exact alst w3 _ _ _ (by rw [List.length_map, L0.out]; rfl)
  have D4 : Hid (Below w.heap.size w w4) := D3.out.trans (h4.mono D3.out.size)
  have Y4 : Hid (Blk w4 (w.heap.size + 1) (zB 16)) := Y3.out.up h4 Y3.out.lt
  rw [HG0.out, ← D0.out] at b4
  have Z4 : Hid (Blk w4 w3.heap.size ((A.gridL (Dn 0)).map b8)) := b4
  have NK : Hid (w.heap.size + 1 < w3.heap.size) := Y3.out.lt
  clear hw4 b4 h4 D3 Y3 T3 L0 HG0
  generalize w3.heap.size = kg at *
  go_wp2_with fail
  refine Calls.mono (RN.out w4 D4.out) ?_
  rintro e w5 ⟨rfl, hb5⟩
  have D5 : Hid (Below w.heap.size w w5) := D4.out.trans (hb5.mono D4.out.size)
  have Y5 : Hid (Blk w5 (w.heap.size + 1) (zB 16)) := Y4.out.up hb5 Y4.out.lt
  have Z5 : Hid (Blk w5 kg ((A.gridL (Dn 0)).map b8)) := Z4.out.up hb5 Z4.out.lt
  clear hb5 D4 Y4 Z4
  go_wp2_with fail
  go_loopw [6] (fun i wr => ∃ k n : Nat, n + k = r ∧ i = .int .i64 (n : Int) ∧ Hid (Blk wr kg ((A.gridL (Dn k)).map b8)) ∧ Hid (Blk wr (w.heap.size + 1) (zB 16)) ∧ Hid (Below w.heap.size w wr)) (fun i _ => (intOf i).toNat)
  case atStart => exact ⟨0, r, by omega, rfl, Z5, Y5, D5⟩
  case round =>
    clear Z5 Y5 D5
    obtain ⟨k, n1, hnk, rfl, Z5, Y5, D5⟩ := hrel
    by_cases hn : 1 ≤ n1
    · obtain ⟨n, rfl⟩ : ∃ n, n1 = n + 1 := ⟨n1 - 1, by omega⟩
      have le1 : (1 : Int) ≤ ((n + 1 : Nat) : Int) := by omega
      have NK1 : Hid (n + (k + 1) = r) := by show _ = _; omega
      have rk1 : r - k = n + 1 := by omega
      have A1 : Hid _ := fun W hW => AD.out (Dn k) (n + 1) W (DOK.out k) (by omega) hW
      have SOK : Hid (A.ok 16 (A.addK (Dn k) (A.rk ws (n + 1)))) := A.addK_ok (DOK.out k) (KO.out _)
      have SE := DS.out k
      rw [rk1] at SE
      have MT : Hid _ := fun W => MX.out (A.addK (Dn k) (A.rk ws (n + 1))) W SOK.out
      have F1 : Hid (n + 1 = r → ∀ l : List Nat, l.length = 16 → (∀ p, p < 4 * 4 → l.getD (A.pl p) 0 = G.unsub ((A.gridL (A.addK (Dn k) (A.rk ws (n + 1)))).getD p 0)) → l = A.gridL (Dn (k + 1))) := fun h l hl hp => by
        rw [SE, if_pos h]
        exact A.un_list hl hp
      have F2 : Hid (¬ n + 1 = r → ∀ l : List Nat, l.length = 16 → (∀ p, p < 4 * 4 → l.getD (A.pl p) 0 = G.unsub ((A.gridL (A.unmixAll (A.addK (Dn k) (A.rk ws (n + 1))))).getD p 0)) → l = A.gridL (Dn (k + 1))) := fun h l hl hp => by
        rw [SE, if_neg h]
        exact A.un_list hl hp
      have G2 : Hid (A.ok 16 (A.gridL (A.unmixAll (A.addK (Dn k) (A.rk ws (n + 1)))))) := A.gridL_ok (A.unmixAll_ok SOK.out)
      have G1 : Hid (A.ok 16 (A.gridL (A.addK (Dn k) (A.rk ws (n + 1))))) := A.gridL_ok SOK.out
      have GD : Hid ((A.gridL (Dn k)).length = 16) := A.by_length _ _
      obtain ⟨g2, hg2⟩ : ∃ g2, g2 = A.gridL (A.unmixAll (A.addK (Dn k) (A.rk ws (n + 1)))) := ⟨_, rfl⟩
      rw [← hg2] at MT F2 G2
      obtain ⟨g1, hg1⟩ : ∃ g1, g1 = A.gridL (A.addK (Dn k) (A.rk ws (n + 1))) := ⟨_, rfl⟩
      rw [← hg1] at MT A1 F1 G1
      obtain ⟨gd, hgd⟩ : ∃ gd, gd = A.gridL (Dn k) := ⟨_, rfl⟩
      rw [← hgd] at A1 Z5 GD
      have B4 : Hid _ := built4 14 11 13 9
      have RJ : Hid (n + 1 ≤ r) := by show _ ≤ _; omega
      have wn : IntKind.i64.wrap (((n + 1 : Nat) : Int) - 1) = (n : Int) := by rw [IntKind.wrap_i64]; omega
      have NR : Hid ((n + 1 = r ∧ ¬ ((n + 1 : Nat) : Int) < (r : Int)) ∨ (¬ n + 1 = r ∧ ((n + 1 : Nat) : Int) < (r : Int))) := by show _ ∨ _; omega
      obtain ⟨ni, hni⟩ : ∃ ni : Int, ni = ((n + 1 : Nat) : Int) := ⟨_, rfl⟩
      rw [← hni] at le1 wn NR A1
      have HNI : Hid (ni = ((n + 1 : Nat) : Int)) := hni
      rw [← hni]
      clear hg1 hg2 hgd SE SOK rk1 hnk hn hni
      go_wp2_with (refine wpList_load_mid rfl 75 (.tmp 5) rfl kg 0 rfl (gd.map b8) _ Z5.out.all u_g16 rfl (info_n info_g16 gd GD.out) ?_)
      refine Calls.mono (A1.out wr D5.out) ?_
      rintro e w6 ⟨rfl, hb6⟩
      have Z6 : Hid (Blk w6 kg (gd.map b8)) := Z5.out.up hb6 Z5.out.lt
      have Y6 : Hid (Blk w6 (w.heap.size + 1) (zB 16)) := Y5.out.up hb6 Y5.out.lt
      have D6 : Hid (Below w.heap.size w w6) := D5.out.trans (hb6.mono D5.out.size)
      clear hb6 Z5 Y5 D5 A1
      have T6 : Hid (w6.there kg 0 (g1.map b8).length) := Z6.out.there (by rw [List.length_map, List.length_map, G1.out.1, GD.out]; omega)
      go_wp2_with (refine wp_store_eq rfl 75 (.tmp 5) (.tmp 21) rfl kg 0 (g1.map b8) rfl rfl T6.out (info_n info_g16 g1 G1.out.1) (one_b8 _) ?_)
      intro w61 hw61
      have Z61 : Hid (Blk w61 kg (g1.map b8)) := by rw [hw61.out]; exact Z6.out.over (by rw [G1.out.1, GD.out])
      have Y61 : Hid (Blk w61 (w.heap.size + 1) (zB 16)) := by rw [hw61.out]; exact Y6.out.apart (by have := NK.out; omega)
      have D61 : Hid (Below w.heap.size w w61) := by rw [hw61.out]; exact below_setCells _ _ _ D6.out (by have := NK.out; omega)
      clear hw61 T6 Z6 Y6 D6
      go_wp2_with fail
      refine Calls.mono (RN.out w61 D61.out) ?_
      rintro e w7 ⟨rfl, hb7⟩
      have Z7 : Hid (Blk w7 kg (g1.map b8)) := Z61.out.up hb7 Z61.out.lt
      have Y7 : Hid (Blk w7 (w.heap.size + 1) (zB 16)) := Y61.out.up hb7 Y61.out.lt
      have D7 : Hid (Below w.heap.size w w7) := D61.out.trans (hb7.mono D61.out.size)
      clear hb7 Z61 Y61 D61
      rcases NR.out with ⟨hjr, nlt⟩ | ⟨hjr, nlt⟩
      · have FIN : Hid _ := F1.out hjr
        have GB : Hid (∀ i, g1.getD i 0 < 256) := fun i => G1.out.at i
        have GN := G1.out.1
        clear hjr F1 F2 MT NR
        generalize g1 = gl at *
        have E6 : Hid (gl.length = 16) := GN
        have H0 : Hid (Blk (w7.alloc (.cells #[Value.int IntKind.u8 0, Value.int IntKind.u8 0, Value.int IntKind.u8 0, Value.int IntKind.u8 0, Value.int IntKind.u8 0, Value.int IntKind.u8 0, Value.int IntKind.u8 0, Value.int IntKind.u8 0, Value.int IntKind.u8 0, Value.int IntKind.u8 0, Value.int IntKind.u8 0, Value.int IntKind.u8 0, Value.int IntKind.u8 0, Value.int IntKind.u8 0, Value.int IntKind.u8 0, Value.int IntKind.u8 0] 75)) w7.heap.size ((List.replicate 16 0).map b8)) := (al1 w7 #[Value.int IntKind.u8 0, Value.int IntKind.u8 0, Value.int IntKind.u8 0, Value.int IntKind.u8 0, Value.int IntKind.u8 0, Value.int IntKind.u8 0, Value.int IntKind.u8 0, Value.int IntKind.u8 0, Value.int IntKind.u8 0, Value.int IntKind.u8 0, Value.int IntKind.u8 0, Value.int IntKind.u8 0, Value.int IntKind.u8 0, Value.int IntKind.u8 0, Value.int IntKind.u8 0, Value.int IntKind.u8 0] 75).1
        have b7 := (al1 w7 #[Value.int IntKind.u8 0, Value.int IntKind.u8 0, Value.int IntKind.u8 0, Value.int IntKind.u8 0, Value.int IntKind.u8 0, Value.int IntKind.u8 0, Value.int IntKind.u8 0, Value.int IntKind.u8 0, Value.int IntKind.u8 0, Value.int IntKind.u8 0, Value.int IntKind.u8 0, Value.int IntKind.u8 0, Value.int IntKind.u8 0, Value.int IntKind.u8 0, Value.int IntKind.u8 0, Value.int IntKind.u8 0] 75).2
        have D8 : Hid (Below w.heap.size w _) := D7.out.trans (b7.mono D7.out.size)
        have Y8 : Hid (Blk _ (w.heap.size + 1) (zB 16)) := Y7.out.up b7 Y7.out.lt
        have Z8 : Hid (Blk _ kg (gl.map b8)) := Z7.out.up b7 Z7.out.lt
        have NH : Hid (kg < w7.heap.size ∧ w.heap.size + 1 < w7.heap.size) := ⟨Z7.out.lt, Y7.out.lt⟩
        have L0 : Hid ((List.replicate 16 0 : List Nat).length = 16 ∧ ∀ p, p < 4 * 0 → (List.replicate 16 0 : List Nat).getD (A.pl p) 0 = G.unsub (gl.getD p 0)) := ⟨by simp, fun p hp => absurd hp (Nat.not_lt_zero _)⟩
        clear b7 D7 Y7 Z7
        go_wp2_with fail
        generalize (List.replicate 16 0 : List Nat) = z0 at *
        generalize w7.alloc _ = w8 at *
        generalize w7.heap.size = kh at *
        go_loopw [29] (fun i wr => ∃ (q : Nat) (l : List Nat), q ≤ 4 ∧ i = .int .i64 (q : Int) ∧ Hid (l.length = 16 ∧ ∀ p, p < 4 * q → l.getD (A.pl p) 0 = G.unsub (gl.getD p 0)) ∧ Hid (Blk wr kh (l.map b8)) ∧ Hid (Blk wr kg (gl.map b8)) ∧ Hid (Blk wr (w.heap.size + 1) (zB 16)) ∧ Hid (Below w.heap.size w wr)) (fun i _ => 4 - (intOf i).toNat)
        case atStart => exact ⟨0, z0, by omega, rfl, L0, H0, Z8, Y8, D8⟩
        case round =>
          clear L0 H0 Z8 Y8 D8
          obtain ⟨q, l, hq, rfl, L0, H0, Z8, Y8, D8⟩ := hrel
          by_cases hq1 : q < 4
          · have q1 : (q : Int) < 4 := by omega
            have wq : IntKind.i64.wrap ((q : Int) + 1) = (q : Int) + 1 := by rw [IntKind.wrap_i64]; omega
            have Q4 : Hid (q < 4) := hq1
            have L1 : Hid (l.length = 16 ∧ ∀ p, p < 4 * q + 0 → l.getD (A.pl p) 0 = G.unsub (gl.getD p 0)) := L0
            clear L0 hq hq1
            go_wp2_with fail
            go_loopw [32] (fun i wr => ∃ (k : Nat) (l : List Nat), k ≤ 4 ∧ i = .int .i64 (k : Int) ∧ Hid (l.length = 16 ∧ ∀ p, p < 4 * q + k → l.getD (A.pl p) 0 = G.unsub (gl.getD p 0)) ∧ Hid (Blk wr kh (l.map b8)) ∧ Hid (Blk wr kg (gl.map b8)) ∧ Hid (Blk wr (w.heap.size + 1) (zB 16)) ∧ Hid (Below w.heap.size w wr)) (fun i _ => 4 - (intOf i).toNat)
            case atStart => exact ⟨0, l, by omega, rfl, L1, H0, Z8, Y8, D8⟩
            case round =>
              clear L1 H0 Z8 Y8 D8
              obtain ⟨k, l, hk, rfl, L1, H0, Z8, Y8, D8⟩ := hrel
              by_cases hk1 : k < 4
              · have k1 : (k : Int) < 4 := by omega
                have wk : IntKind.i64.wrap ((k : Int) + 1) = (k : Int) + 1 := by rw [IntKind.wrap_i64]; omega
                obtain ⟨m, hm⟩ : ∃ m, m = (k + q) % 4 := ⟨_, rfl⟩
                have Q4' := Q4.out
                have wa : IntKind.i64.wrap ((k : Int) + (q : Int)) = (k : Int) + (q : Int) := by rw [IntKind.wrap_i64]; omega
                have m1 : ((k : Int) + (q : Int)).tmod 4 = (m : Int) := by rw [Int.tmod_eq_emod_of_nonneg (by omega)]; omega
                have m2 : ((k : Int) + (q : Int)) % 4 = (m : Int) := by omega
                have m4 : (m : Int) < 4 := by omega
                have PL : Hid (A.pl (4 * q + k) = q * 4 + m ∧ 4 * q + k = q * 4 + k ∧ q * 4 + m < 16 ∧ q * 4 + k < 16) := by
                  refine ⟨?_, by omega, by omega, by omega⟩
                  rw [hm]
                  exact A.pl_at q Q4.out k hk1
                have gv1 := GB.out (q * 4 + k)
                have cg : Hid (∀ W, Below wr.heap.size wr W → W.cell? ⟨kg, q * 4 + k, none⟩ = some (b8 (gl.getD (q * 4 + k) 0))) := fun W hW => (Z8.out.up hW Z8.out.lt).byte _ (by rw [E6.out]; exact PL.out.2.2.2)
                have cb : Hid (∀ W, Below wr.heap.size wr W → W.cell? ⟨kc, 257 + gl.getD (q * 4 + k) 0, none⟩ = some (b8 (G.unsub (gl.getD (q * 4 + k) 0)))) := fun W hW => (CU.out W (D8.out.trans (hW.mono D8.out.size))).unbox _ gv1
                have ch : Hid (∀ W, Below wr.heap.size wr W → W.cell? ⟨kh, q * 4 + m, none⟩ = some (b8 (l.getD (q * 4 + m) 0))) := fun W hW => (H0.out.up hW H0.out.lt).byte _ (by rw [L1.out.1]; exact PL.out.2.2.1)
                have L2 : Hid ((l.set (q * 4 + m) (G.unsub (gl.getD (q * 4 + k) 0))).length = 16 ∧ ∀ p, p < 4 * q + (k + 1) → (l.set (q * 4 + m) (G.unsub (gl.getD (q * 4 + k) 0))).getD (A.pl p) 0 = G.unsub (gl.getD p 0)) := by
                  refine ⟨by rw [List.length_set]; exact L1.out.1, fun p hp => ?_⟩
                  rw [getD_set _ _ _ _ (by rw [L1.out.1]; exact PL.out.2.2.1)]
                  by_cases e : p = 4 * q + k
                  · rw [e, if_pos PL.out.1.symm, PL.out.2.1]
                  · rw [if_neg (fun h => by
                      have h2 : A.pl p = A.pl (4 * q + k) := by rw [PL.out.1]; exact h.symm
                      have h3 := congrArg A.unpl h2
                      rw [(A.pls p (by omega)).2.2.2, (A.pls _ (by omega)).2.2.2] at h3
                      exact e h3)]
                    exact L1.out.2 p (by omega)
                have US : Hid (∀ W, Blk W kh (l.map b8) → Blk (W.setCell ⟨kh, q * 4 + m, none⟩ (b8 (G.unsub (gl.getD (q * 4 + k) 0)))) kh ((l.set (q * 4 + m) (G.unsub (gl.getD (q * 4 + k) 0))).map b8)) := fun W h => h.setB _ _ (by rw [L1.out.1]; exact PL.out.2.2.1)
                have K4 : Hid (k < 4) := hk1
                generalize l.set (q * 4 + m) (G.unsub (gl.getD (q * 4 + k) 0)) = l2 at *
                generalize G.unsub (gl.getD (q * 4 + k) 0) = nw at *
                generalize gl.getD (q * 4 + k) 0 = gv at *
                generalize l.getD (q * 4 + m) 0 = old at *
                have gv2 : (gv : Int) < 256 := by omega
                clear hm hk hk1 Q4' PL gv1 L1
                go_wp2_with fail
                refine wp_region_monoSE 17 [MP.eq (.int .i64 (q : Int)), MP.eq (.int .i64 (k : Int)), MP.eq (.int .i64 (q : Int)), MP.eq (.int .i64 ((k : Int) + (q : Int))), MP.eq (.int .i64 (m : Int)), MP.eq (.pointer (some ⟨kc, 0, none⟩)), MP.eq (.int .i64 (q : Int)), MP.eq (.int .i64 (k : Int)), MP.eq (.pointer (some ⟨kg, q * 4, none⟩)), MP.eq (.pointer (some ⟨kg, q * 4 + k, none⟩)), MP.eq (b8 gv), MP.eq (.pointer (some ⟨kc, 0, none⟩)), MP.eq (.pointer (some ⟨kc, 257, none⟩)), MP.eq (.pointer (some ⟨kc, 257 + gv, none⟩)), MP.eq (b8 nw), MP.eq (.pointer (some ⟨kh, q * 4, none⟩)), MP.eq (.pointer (some ⟨kh, q * 4 + m, none⟩))] (by kernel_rfl) (by kernel_rfl) rfl (by decide) (by kernel_rfl) ?_
                apply Exists.intro
                refine ⟨fun vals => ?_, ?_, fun vals9 w9 hb9 hF hO => ?_⟩
                · simp only [putsV, dstL, List.length_cons, List.length_nil, Nat.zero_add, Nat.reduceAdd, List.getElem?_cons_zero, List.getElem?_cons_succ, Option.bind_some, Act.put, List.setIfInBounds_toArray, List.set_cons_succ, List.set_cons_zero]
                  rfl
                · refine ⟨?_, ?_, ?_, ?_, ?_, ?_, ?_, ?_, ?_, ?_, ?_, ?_, ?_, ?_, ?_, ?_, ?_, trivial⟩
                  · intro vals W hW hw hd
                    try simp [Region.binds] at hd
                    refine ⟨by first | rfl | simp [Region.wanted, yielded, hd], ?_⟩
                    simp [go_sem, hd]
                    exact Below.refl _ _
                  · intro vals W hW hw hd
                    try simp [Region.binds] at hd
                    refine ⟨by first | rfl | simp [Region.wanted, yielded, hd], ?_⟩
                    simp [go_sem, hd]
                    exact Below.refl _ _
                  · intro vals W hW hw hd
                    try simp [Region.binds] at hd
                    refine ⟨by first | rfl | simp [Region.wanted, yielded, hd], ?_⟩
                    simp [go_sem, hd]
                    exact Below.refl _ _
                  · intro vals W hW hw hd
                    try simp [Region.binds] at hd
                    refine ⟨by first | rfl | simp [Region.wanted, yielded, hd], ?_⟩
                    simp [go_sem, hd, wa]
                    exact Below.refl _ _
                  · intro vals W hW hw hd
                    try simp [Region.binds] at hd
                    refine ⟨by first | rfl | simp [Region.wanted, yielded, hd], ?_⟩
                    simp [go_sem, hd, m1, m2]
                    exact Below.refl _ _
                  · intro vals W hW hw hd
                    try simp [Region.binds] at hd
                    refine ⟨by first | rfl | simp [Region.wanted, yielded, hd], ?_⟩
                    simp [go_sem, hd]
                    exact Below.refl _ _
                  · intro vals W hW hw hd
                    try simp [Region.binds] at hd
                    refine ⟨by first | rfl | simp [Region.wanted, yielded, hd], ?_⟩
                    simp [go_sem, hd]
                    exact Below.refl _ _
                  · intro vals W hW hw hd
                    try simp [Region.binds] at hd
                    refine ⟨by first | rfl | simp [Region.wanted, yielded, hd], ?_⟩
                    simp [go_sem, hd]
                    exact Below.refl _ _
                  · intro vals W hW hw hd
                    try simp [Region.binds] at hd
                    refine ⟨by first | rfl | simp [Region.wanted, yielded, hd], ?_⟩
                    simp [go_sem, hd, q1]
                    exact Below.refl _ _
                  · intro vals W hW hw hd
                    try simp [Region.binds] at hd
                    refine ⟨by first | rfl | simp [Region.wanted, yielded, hd], ?_⟩
                    simp [go_sem, hd, k1]
                    exact Below.refl _ _
                  · intro vals W hW hw hd
                    try simp [Region.binds] at hd
                    refine ⟨by first | rfl | simp [Region.wanted, yielded, hd], ?_⟩
                    have cc := cg.out W hW.out
                    simp [go_sem, hd, cc]
                    exact Below.refl _ _
                  · intro vals W hW hw hd
                    try simp [Region.binds] at hd
                    refine ⟨by first | rfl | simp [Region.wanted, yielded, hd], ?_⟩
                    simp [go_sem, hd]
                    exact Below.refl _ _
                  · intro vals W hW hw hd
                    try simp [Region.binds] at hd
                    refine ⟨by first | rfl | simp [Region.wanted, yielded, hd], ?_⟩
                    simp [go_sem, hd]
                    exact Below.refl _ _
                  · intro vals W hW hw hd
                    try simp [Region.binds] at hd
                    refine ⟨by first | rfl | simp [Region.wanted, yielded, hd], ?_⟩
                    simp [go_sem, hd, gv2]
                    exact Below.refl _ _
                  · intro vals W hW hw hd
                    try simp [Region.binds] at hd
                    refine ⟨by first | rfl | simp [Region.wanted, yielded, hd], ?_⟩
                    have cc := cb.out W hW.out
                    simp [go_sem, hd, cc]
                    exact Below.refl _ _
                  · intro vals W hW hw hd
                    try simp [Region.binds] at hd
                    refine ⟨by first | rfl | simp [Region.wanted, yielded, hd], ?_⟩
                    simp [go_sem, hd, q1]
                    exact Below.refl _ _
                  · intro vals W hW hw hd
                    try simp [Region.binds] at hd
                    refine ⟨by first | rfl | simp [Region.wanted, yielded, hd], ?_⟩
                    simp [go_sem, hd, m4]
                    exact Below.refl _ _
                obtain ⟨f0, f1, f2, f3, f4, f5, f6, f7, f8, f9, f10, f11, f12, f13, f14, f15, f16, _⟩ := hF
                simp only [MP.eq_p] at f0 f1 f2 f3 f4 f5 f6 f7 f8 f9 f10 f11 f12 f13 f14 f15 f16
                rw [f0, f1, f2, f3, f4, f5, f6, f7, f8, f9, f10, f11, f12, f13, f14, f15, f16]
                simp only [List.drop_succ_cons, List.drop_zero]
                have c9 := ch.out w9 hb9.out
                have z9 := (H0.out.up hb9.out H0.out.lt).fz (q * 4 + m)
                have V0 : Hid _ := US.out w9 (H0.out.up hb9.out H0.out.lt)
                have V1 : Hid _ := (Z8.out.up hb9.out Z8.out.lt).apart1 (k' := kh) (o := q * 4 + m) (v := b8 nw) (by have := NH.out; omega)
                have V2 : Hid _ := (Y8.out.up hb9.out Y8.out.lt).apart1 (k' := kh) (o := q * 4 + m) (v := b8 nw) (by have := NH.out; omega)
                have V3 : Hid _ := (D8.out.trans (hb9.out.mono D8.out.size)).setCell (p := ⟨kh, q * 4 + m, none⟩) (by show w.heap.size ≤ kh; have := NH.out; omega) (b8 nw)
                clear f0 f1 f2 f3 f4 f5 f6 f7 f8 f9 f10 f11 f12 f13 f14 f15 f16 hb9 hO H0 Z8 Y8 D8 cg cb ch US
                go_wp2_with fail
                go_roundw
                case rel => exact ⟨k + 1, l2, K4.out, by first | rfl | go_num, L2, V0, V1, V2, V3⟩
                case measure => have := K4.out; simp [intOf]; omega
              · obtain rfl : k = 4 := by omega
                clear hk hk1
                go_wp2_with fail
                go_roundw
                case rel => exact ⟨q + 1, l, Q4.out, by first | rfl | go_num, by rw [show 4 * (q + 1) = 4 * q + 4 by omega]; exact L1, H0, Z8, Y8, D8⟩
                case measure => have := Q4.out; simp [intOf]; omega
          · obtain rfl : q = 4 := by omega
            have EL : Hid (l = A.gridL (Dn (k + 1))) := FIN.out l L0.out.1 L0.out.2
            have LL : Hid (l.length = 16) := L0.out.1
            have T9 : Hid (wr.there kg 0 (l.map b8).length) := Z8.out.there (by rw [List.length_map, List.length_map, LL.out, E6.out]; omega)
            clear hq hq1 L0 FIN
            go_wp2_with (first | refine wpList_load_mid rfl 75 (.tmp 7) rfl kh 0 rfl (l.map b8) _ H0.out.all u_g16 rfl (info_n info_g16 l LL.out) ?_ | refine wp_store_eq rfl 75 (.tmp 5) (.tmp 54) rfl kg 0 (l.map b8) rfl rfl T9.out (info_n info_g16 l LL.out) (one_b8 _) ?_)
            intro w10 hw10
            have Z10 : Hid (Blk w10 kg (l.map b8)) := by rw [hw10.out]; exact Z8.out.over (by rw [LL.out, E6.out])
            have Y10 : Hid (Blk w10 (w.heap.size + 1) (zB 16)) := by rw [hw10.out]; exact Y8.out.apart (by have := NK.out; omega)
            have D10 : Hid (Below w.heap.size w w10) := by rw [hw10.out]; exact below_setCells _ _ _ D8.out (by have := NK.out; omega)
            clear hw10 T9 Z8 Y8 D8 H0
            go_wp2_with fail
            go_roundw
            case rel => exact ⟨k + 1, n, NK1.out, by first | rfl | go_num, by rw [← EL.out]; exact Z10, Y10, D10⟩
            case measure => have := HNI.out; simp [intOf]; omega
      · have FIN : Hid _ := F2.out hjr
        clear hjr F1 F2 NR
        go_wp2_with (first | refine wpList_load_mid rfl 75 (.tmp 5) rfl kg 0 rfl (g1.map b8) _ Z7.out.all u_g16 rfl (info_n info_g16 g1 G1.out.1) ?_ | refine wp_build4 rfl 14 11 13 9 rfl B4.out ?_)
        refine Calls.mono (MT.out w7) ?_
        rintro e w8 ⟨rfl, hb8⟩
        have Z8 : Hid (Blk w8 kg (g1.map b8)) := Z7.out.up hb8 Z7.out.lt
        have Y8 : Hid (Blk w8 (w.heap.size + 1) (zB 16)) := Y7.out.up hb8 Y7.out.lt
        have D8 : Hid (Below w.heap.size w w8) := D7.out.trans (hb8.mono D7.out.size)
        clear hb8 Z7 Y7 D7 MT
        have TM : Hid (w8.there kg 0 (g2.map b8).length) := Z8.out.there (by rw [List.length_map, List.length_map, G2.out.1, G1.out.1]; omega)
        go_wp2_with (refine wp_store_eq rfl 75 (.tmp 5) (.tmp 28) rfl kg 0 (g2.map b8) rfl rfl TM.out (info_n info_g16 g2 G2.out.1) (one_b8 _) ?_)
        intro w7 hw7
        have Z7 : Hid (Blk w7 kg (g2.map b8)) := by rw [hw7.out]; exact Z8.out.over (by rw [G2.out.1, G1.out.1])
        have Y7 : Hid (Blk w7 (w.heap.size + 1) (zB 16)) := by rw [hw7.out]; exact Y8.out.apart (by have := NK.out; omega)
        have D7 : Hid (Below w.heap.size w w7) := by rw [hw7.out]; exact below_setCells _ _ _ D8.out (by have := NK.out; omega)
        have GB : Hid (∀ i, g2.getD i 0 < 256) := fun i => G2.out.at i
        have GN := G2.out.1
        clear hw7 Z8 Y8 D8 TM
        generalize g2 = gl at *
        have E6 : Hid (gl.length = 16) := GN
        have H0 : Hid (Blk (w7.alloc (.cells #[Value.int IntKind.u8 0, Value.int IntKind.u8 0, Value.int IntKind.u8 0, Value.int IntKind.u8 0, Value.int IntKind.u8 0, Value.int IntKind.u8 0, Value.int IntKind.u8 0, Value.int IntKind.u8 0, Value.int IntKind.u8 0, Value.int IntKind.u8 0, Value.int IntKind.u8 0, Value.int IntKind.u8 0, Value.int IntKind.u8 0, Value.int IntKind.u8 0, Value.int IntKind.u8 0, Value.int IntKind.u8 0] 75)) w7.heap.size ((List.replicate 16 0).map b8)) := (al1 w7 #[Value.int IntKind.u8 0, Value.int IntKind.u8 0, Value.int IntKind.u8 0, Value.int IntKind.u8 0, Value.int IntKind.u8 0, Value.int IntKind.u8 0, Value.int IntKind.u8 0, Value.int IntKind.u8 0, Value.int IntKind.u8 0, Value.int IntKind.u8 0, Value.int IntKind.u8 0, Value.int IntKind.u8 0, Value.int IntKind.u8 0, Value.int IntKind.u8 0, Value.int IntKind.u8 0, Value.int IntKind.u8 0] 75).1
        have b7 := (al1 w7 #[Value.int IntKind.u8 0, Value.int IntKind.u8 0, Value.int IntKind.u8 0, Value.int IntKind.u8 0, Value.int IntKind.u8 0, Value.int IntKind.u8 0, Value.int IntKind.u8 0, Value.int IntKind.u8 0, Value.int IntKind.u8 0, Value.int IntKind.u8 0, Value.int IntKind.u8 0, Value.int IntKind.u8 0, Value.int IntKind.u8 0, Value.int IntKind.u8 0, Value.int IntKind.u8 0, Value.int IntKind.u8 0] 75).2
        have D8 : Hid (Below w.heap.size w _) := D7.out.trans (b7.mono D7.out.size)
        have Y8 : Hid (Blk _ (w.heap.size + 1) (zB 16)) := Y7.out.up b7 Y7.out.lt
        have Z8 : Hid (Blk _ kg (gl.map b8)) := Z7.out.up b7 Z7.out.lt
        have NH : Hid (kg < w7.heap.size ∧ w.heap.size + 1 < w7.heap.size) := ⟨Z7.out.lt, Y7.out.lt⟩
        have L0 : Hid ((List.replicate 16 0 : List Nat).length = 16 ∧ ∀ p, p < 4 * 0 → (List.replicate 16 0 : List Nat).getD (A.pl p) 0 = G.unsub (gl.getD p 0)) := ⟨by simp, fun p hp => absurd hp (Nat.not_lt_zero _)⟩
        clear b7 D7 Y7 Z7
        go_wp2_with fail
        generalize (List.replicate 16 0 : List Nat) = z0 at *
        generalize w7.alloc _ = w8 at *
        generalize w7.heap.size = kh at *
        go_loopw [29] (fun i wr => ∃ (q : Nat) (l : List Nat), q ≤ 4 ∧ i = .int .i64 (q : Int) ∧ Hid (l.length = 16 ∧ ∀ p, p < 4 * q → l.getD (A.pl p) 0 = G.unsub (gl.getD p 0)) ∧ Hid (Blk wr kh (l.map b8)) ∧ Hid (Blk wr kg (gl.map b8)) ∧ Hid (Blk wr (w.heap.size + 1) (zB 16)) ∧ Hid (Below w.heap.size w wr)) (fun i _ => 4 - (intOf i).toNat)
        case atStart => exact ⟨0, z0, by omega, rfl, L0, H0, Z8, Y8, D8⟩
        case round =>
          clear L0 H0 Z8 Y8 D8
          obtain ⟨q, l, hq, rfl, L0, H0, Z8, Y8, D8⟩ := hrel
          by_cases hq1 : q < 4
          · have q1 : (q : Int) < 4 := by omega
            have wq : IntKind.i64.wrap ((q : Int) + 1) = (q : Int) + 1 := by rw [IntKind.wrap_i64]; omega
            have Q4 : Hid (q < 4) := hq1
            have L1 : Hid (l.length = 16 ∧ ∀ p, p < 4 * q + 0 → l.getD (A.pl p) 0 = G.unsub (gl.getD p 0)) := L0
            clear L0 hq hq1
            go_wp2_with fail
            go_loopw [32] (fun i wr => ∃ (k : Nat) (l : List Nat), k ≤ 4 ∧ i = .int .i64 (k : Int) ∧ Hid (l.length = 16 ∧ ∀ p, p < 4 * q + k → l.getD (A.pl p) 0 = G.unsub (gl.getD p 0)) ∧ Hid (Blk wr kh (l.map b8)) ∧ Hid (Blk wr kg (gl.map b8)) ∧ Hid (Blk wr (w.heap.size + 1) (zB 16)) ∧ Hid (Below w.heap.size w wr)) (fun i _ => 4 - (intOf i).toNat)
            case atStart => exact ⟨0, l, by omega, rfl, L1, H0, Z8, Y8, D8⟩
            case round =>
              clear L1 H0 Z8 Y8 D8
              obtain ⟨k, l, hk, rfl, L1, H0, Z8, Y8, D8⟩ := hrel
              by_cases hk1 : k < 4
              · have k1 : (k : Int) < 4 := by omega
                have wk : IntKind.i64.wrap ((k : Int) + 1) = (k : Int) + 1 := by rw [IntKind.wrap_i64]; omega
                obtain ⟨m, hm⟩ : ∃ m, m = (k + q) % 4 := ⟨_, rfl⟩
                have Q4' := Q4.out
                have wa : IntKind.i64.wrap ((k : Int) + (q : Int)) = (k : Int) + (q : Int) := by rw [IntKind.wrap_i64]; omega
                have m1 : ((k : Int) + (q : Int)).tmod 4 = (m : Int) := by rw [Int.tmod_eq_emod_of_nonneg (by omega)]; omega
                have m2 : ((k : Int) + (q : Int)) % 4 = (m : Int) := by omega
                have m4 : (m : Int) < 4 := by omega
                have PL : Hid (A.pl (4 * q + k) = q * 4 + m ∧ 4 * q + k = q * 4 + k ∧ q * 4 + m < 16 ∧ q * 4 + k < 16) := by
                  refine ⟨?_, by omega, by omega, by omega⟩
                  rw [hm]
                  exact A.pl_at q Q4.out k hk1
                have gv1 := GB.out (q * 4 + k)
                have cg : Hid (∀ W, Below wr.heap.size wr W → W.cell? ⟨kg, q * 4 + k, none⟩ = some (b8 (gl.getD (q * 4 + k) 0))) := fun W hW => (Z8.out.up hW Z8.out.lt).byte _ (by rw [E6.out]; exact PL.out.2.2.2)
                have cb : Hid (∀ W, Below wr.heap.size wr W → W.cell? ⟨kc, 257 + gl.getD (q * 4 + k) 0, none⟩ = some (b8 (G.unsub (gl.getD (q * 4 + k) 0)))) := fun W hW => (CU.out W (D8.out.trans (hW.mono D8.out.size))).unbox _ gv1
                have ch : Hid (∀ W, Below wr.heap.size wr W → W.cell? ⟨kh, q * 4 + m, none⟩ = some (b8 (l.getD (q * 4 + m) 0))) := fun W hW => (H0.out.up hW H0.out.lt).byte _ (by rw [L1.out.1]; exact PL.out.2.2.1)
                have L2 : Hid ((l.set (q * 4 + m) (G.unsub (gl.getD (q * 4 + k) 0))).length = 16 ∧ ∀ p, p < 4 * q + (k + 1) → (l.set (q * 4 + m) (G.unsub (gl.getD (q * 4 + k) 0))).getD (A.pl p) 0 = G.unsub (gl.getD p 0)) := by
                  refine ⟨by rw [List.length_set]; exact L1.out.1, fun p hp => ?_⟩
                  rw [getD_set _ _ _ _ (by rw [L1.out.1]; exact PL.out.2.2.1)]
                  by_cases e : p = 4 * q + k
                  · rw [e, if_pos PL.out.1.symm, PL.out.2.1]
                  · rw [if_neg (fun h => by
                      have h2 : A.pl p = A.pl (4 * q + k) := by rw [PL.out.1]; exact h.symm
                      have h3 := congrArg A.unpl h2
                      rw [(A.pls p (by omega)).2.2.2, (A.pls _ (by omega)).2.2.2] at h3
                      exact e h3)]
                    exact L1.out.2 p (by omega)
                have US : Hid (∀ W, Blk W kh (l.map b8) → Blk (W.setCell ⟨kh, q * 4 + m, none⟩ (b8 (G.unsub (gl.getD (q * 4 + k) 0)))) kh ((l.set (q * 4 + m) (G.unsub (gl.getD (q * 4 + k) 0))).map b8)) := fun W h => h.setB _ _ (by rw [L1.out.1]; exact PL.out.2.2.1)
                have K4 : Hid (k < 4) := hk1
                generalize l.set (q * 4 + m) (G.unsub (gl.getD (q * 4 + k) 0)) = l2 at *
                generalize G.unsub (gl.getD (q * 4 + k) 0) = nw at *
                generalize gl.getD (q * 4 + k) 0 = gv at *
                generalize l.getD (q * 4 + m) 0 = old at *
                have gv2 : (gv : Int) < 256 := by omega
                clear hm hk hk1 Q4' PL gv1 L1
                go_wp2_with fail
                refine wp_region_monoSE 17 [MP.eq (.int .i64 (q : Int)), MP.eq (.int .i64 (k : Int)), MP.eq (.int .i64 (q : Int)), MP.eq (.int .i64 ((k : Int) + (q : Int))), MP.eq (.int .i64 (m : Int)), MP.eq (.pointer (some ⟨kc, 0, none⟩)), MP.eq (.int .i64 (q : Int)), MP.eq (.int .i64 (k : Int)), MP.eq (.pointer (some ⟨kg, q * 4, none⟩)), MP.eq (.pointer (some ⟨kg, q * 4 + k, none⟩)), MP.eq (b8 gv), MP.eq (.pointer (some ⟨kc, 0, none⟩)), MP.eq (.pointer (some ⟨kc, 257, none⟩)), MP.eq (.pointer (some ⟨kc, 257 + gv, none⟩)), MP.eq (b8 nw), MP.eq (.pointer (some ⟨kh, q * 4, none⟩)), MP.eq (.pointer (some ⟨kh, q * 4 + m, none⟩))] (by kernel_rfl) (by kernel_rfl) rfl (by decide) (by kernel_rfl) ?_
                apply Exists.intro
                refine ⟨fun vals => ?_, ?_, fun vals9 w9 hb9 hF hO => ?_⟩
                · simp only [putsV, dstL, List.length_cons, List.length_nil, Nat.zero_add, Nat.reduceAdd, List.getElem?_cons_zero, List.getElem?_cons_succ, Option.bind_some, Act.put, List.setIfInBounds_toArray, List.set_cons_succ, List.set_cons_zero]
                  rfl
                · refine ⟨?_, ?_, ?_, ?_, ?_, ?_, ?_, ?_, ?_, ?_, ?_, ?_, ?_, ?_, ?_, ?_, ?_, trivial⟩
                  · intro vals W hW hw hd
                    try simp [Region.binds] at hd
                    refine ⟨by first | rfl | simp [Region.wanted, yielded, hd], ?_⟩
                    simp [go_sem, hd]
                    exact Below.refl _ _
                  · intro vals W hW hw hd
                    try simp [Region.binds] at hd
                    refine ⟨by first | rfl | simp [Region.wanted, yielded, hd], ?_⟩
                    simp [go_sem, hd]
                    exact Below.refl _ _
                  · intro vals W hW hw hd
                    try simp [Region.binds] at hd
                    refine ⟨by first | rfl | simp [Region.wanted, yielded, hd], ?_⟩
                    simp [go_sem, hd]
                    exact Below.refl _ _
                  · intro vals W hW hw hd
                    try simp [Region.binds] at hd
                    refine ⟨by first | rfl | simp [Region.wanted, yielded, hd], ?_⟩
                    simp [go_sem, hd, wa]
                    exact Below.refl _ _
                  · intro vals W hW hw hd
                    try simp [Region.binds] at hd
                    refine ⟨by first | rfl | simp [Region.wanted, yielded, hd], ?_⟩
                    simp [go_sem, hd, m1, m2]
                    exact Below.refl _ _
                  · intro vals W hW hw hd
                    try simp [Region.binds] at hd
                    refine ⟨by first | rfl | simp [Region.wanted, yielded, hd], ?_⟩
                    simp [go_sem, hd]
                    exact Below.refl _ _
                  · intro vals W hW hw hd
                    try simp [Region.binds] at hd
                    refine ⟨by first | rfl | simp [Region.wanted, yielded, hd], ?_⟩
                    simp [go_sem, hd]
                    exact Below.refl _ _
                  · intro vals W hW hw hd
                    try simp [Region.binds] at hd
                    refine ⟨by first | rfl | simp [Region.wanted, yielded, hd], ?_⟩
                    simp [go_sem, hd]
                    exact Below.refl _ _
                  · intro vals W hW hw hd
                    try simp [Region.binds] at hd
                    refine ⟨by first | rfl | simp [Region.wanted, yielded, hd], ?_⟩
                    simp [go_sem, hd, q1]
                    exact Below.refl _ _
                  · intro vals W hW hw hd
                    try simp [Region.binds] at hd
                    refine ⟨by first | rfl | simp [Region.wanted, yielded, hd], ?_⟩
                    simp [go_sem, hd, k1]
                    exact Below.refl _ _
                  · intro vals W hW hw hd
                    try simp [Region.binds] at hd
                    refine ⟨by first | rfl | simp [Region.wanted, yielded, hd], ?_⟩
                    have cc := cg.out W hW.out
                    simp [go_sem, hd, cc]
                    exact Below.refl _ _
                  · intro vals W hW hw hd
                    try simp [Region.binds] at hd
                    refine ⟨by first | rfl | simp [Region.wanted, yielded, hd], ?_⟩
                    simp [go_sem, hd]
                    exact Below.refl _ _
                  · intro vals W hW hw hd
                    try simp [Region.binds] at hd
                    refine ⟨by first | rfl | simp [Region.wanted, yielded, hd], ?_⟩
                    simp [go_sem, hd]
                    exact Below.refl _ _
                  · intro vals W hW hw hd
                    try simp [Region.binds] at hd
                    refine ⟨by first | rfl | simp [Region.wanted, yielded, hd], ?_⟩
                    simp [go_sem, hd, gv2]
                    exact Below.refl _ _
                  · intro vals W hW hw hd
                    try simp [Region.binds] at hd
                    refine ⟨by first | rfl | simp [Region.wanted, yielded, hd], ?_⟩
                    have cc := cb.out W hW.out
                    simp [go_sem, hd, cc]
                    exact Below.refl _ _
                  · intro vals W hW hw hd
                    try simp [Region.binds] at hd
                    refine ⟨by first | rfl | simp [Region.wanted, yielded, hd], ?_⟩
                    simp [go_sem, hd, q1]
                    exact Below.refl _ _
                  · intro vals W hW hw hd
                    try simp [Region.binds] at hd
                    refine ⟨by first | rfl | simp [Region.wanted, yielded, hd], ?_⟩
                    simp [go_sem, hd, m4]
                    exact Below.refl _ _
                obtain ⟨f0, f1, f2, f3, f4, f5, f6, f7, f8, f9, f10, f11, f12, f13, f14, f15, f16, _⟩ := hF
                simp only [MP.eq_p] at f0 f1 f2 f3 f4 f5 f6 f7 f8 f9 f10 f11 f12 f13 f14 f15 f16
                rw [f0, f1, f2, f3, f4, f5, f6, f7, f8, f9, f10, f11, f12, f13, f14, f15, f16]
                simp only [List.drop_succ_cons, List.drop_zero]
                have c9 := ch.out w9 hb9.out
                have z9 := (H0.out.up hb9.out H0.out.lt).fz (q * 4 + m)
                have V0 : Hid _ := US.out w9 (H0.out.up hb9.out H0.out.lt)
                have V1 : Hid _ := (Z8.out.up hb9.out Z8.out.lt).apart1 (k' := kh) (o := q * 4 + m) (v := b8 nw) (by have := NH.out; omega)
                have V2 : Hid _ := (Y8.out.up hb9.out Y8.out.lt).apart1 (k' := kh) (o := q * 4 + m) (v := b8 nw) (by have := NH.out; omega)
                have V3 : Hid _ := (D8.out.trans (hb9.out.mono D8.out.size)).setCell (p := ⟨kh, q * 4 + m, none⟩) (by show w.heap.size ≤ kh; have := NH.out; omega) (b8 nw)
                clear f0 f1 f2 f3 f4 f5 f6 f7 f8 f9 f10 f11 f12 f13 f14 f15 f16 hb9 hO H0 Z8 Y8 D8 cg cb ch US
                go_wp2_with fail
                go_roundw
                case rel => exact ⟨k + 1, l2, K4.out, by first | rfl | go_num, L2, V0, V1, V2, V3⟩
                case measure => have := K4.out; simp [intOf]; omega
              · obtain rfl : k = 4 := by omega
                clear hk hk1
                go_wp2_with fail
                go_roundw
                case rel => exact ⟨q + 1, l, Q4.out, by first | rfl | go_num, by rw [show 4 * (q + 1) = 4 * q + 4 by omega]; exact L1, H0, Z8, Y8, D8⟩
                case measure => have := Q4.out; simp [intOf]; omega
          · obtain rfl : q = 4 := by omega
            have EL : Hid (l = A.gridL (Dn (k + 1))) := FIN.out l L0.out.1 L0.out.2
            have LL : Hid (l.length = 16) := L0.out.1
            have T9 : Hid (wr.there kg 0 (l.map b8).length) := Z8.out.there (by rw [List.length_map, List.length_map, LL.out, E6.out]; omega)
            clear hq hq1 L0 FIN
            go_wp2_with (first | refine wpList_load_mid rfl 75 (.tmp 7) rfl kh 0 rfl (l.map b8) _ H0.out.all u_g16 rfl (info_n info_g16 l LL.out) ?_ | refine wp_store_eq rfl 75 (.tmp 5) (.tmp 54) rfl kg 0 (l.map b8) rfl rfl T9.out (info_n info_g16 l LL.out) (one_b8 _) ?_)
            intro w10 hw10
            have Z10 : Hid (Blk w10 kg (l.map b8)) := by rw [hw10.out]; exact Z8.out.over (by rw [LL.out, E6.out])
            have Y10 : Hid (Blk w10 (w.heap.size + 1) (zB 16)) := by rw [hw10.out]; exact Y8.out.apart (by have := NK.out; omega)
            have D10 : Hid (Below w.heap.size w w10) := by rw [hw10.out]; exact below_setCells _ _ _ D8.out (by have := NK.out; omega)
            clear hw10 T9 Z8 Y8 D8 H0
            go_wp2_with fail
            go_roundw
            case rel => exact ⟨k + 1, n, NK1.out, by first | rfl | go_num, by rw [← EL.out]; exact Z10, Y10, D10⟩
            case measure => have := HNI.out; simp [intOf]; omega
    · obtain rfl : n1 = 0 := by omega
      obtain rfl : k = r := by omega
      have GD : Hid ((A.gridL (Dn k)).length = 16) := A.by_length _ _
      obtain ⟨gd, hgd⟩ : ∃ gd, gd = A.gridL (Dn k) := ⟨_, rfl⟩
      rw [← hgd] at AF Z5 GD
      have L2 : Hid (fin.length = 16) := FOK.out.1
      clear hgd hnk hn
      go_wp2_with (refine wpList_load_mid rfl 75 (.tmp 5) rfl kg 0 rfl (gd.map b8) _ Z5.out.all u_g16 rfl (info_n info_g16 gd GD.out) ?_)
      refine Calls.mono (AF.out wr D5.out) ?_
      rintro e w6 ⟨rfl, hb6⟩
      have D6 : Hid (Below w.heap.size w w6) := D5.out.trans (hb6.mono D5.out.size)
      have Y6 : Hid (Blk w6 (w.heap.size + 1) (zB 16)) := Y5.out.up hb6 Y5.out.lt
      clear hb6 D5 Y5 Z5
      go_wp2_with fail
      refine Calls.mono (UG.out w6) ?_
      rintro e w7 ⟨rfl, hb7⟩
      have D7 : Hid (Below w.heap.size w w7) := D6.out.trans (hb7.mono D6.out.size)
      have Y7 : Hid (Blk w7 (w.heap.size + 1) (zB 16)) := Y6.out.up hb7 Y6.out.lt
      clear hb7 D6 Y6
      have T7 : Hid (w7.there (w.heap.size + 1) 0 (fin.map b8).length) := Y7.out.there (by rw [List.length_map, L2.out, zB_length]; omega)
      go_wp2_with (refine wp_store_eq rfl 57 (.tmp 4) (.tmp 58) rfl (w.heap.size + 1) 0 (fin.map b8) rfl rfl T7.out (info_n info_a16 fin L2.out) (one_b8 _) ?_)
      intro w9 hw9
      go_wp2_with fail
      refine bodyPost_ret (v := aB fin) ?_ rfl ⟨rfl, ?_⟩
      · rw [hw9.out]
        exact results_cell (b := w.heap.size + 1) rfl rfl (World.rangeAt_setCells_same _ _ _ _ T7.out) u_a16 rfl (info_n info_a16 fin L2.out)
      · rw [hw9.out]
        exact below_setCells _ _ _ D7.out (by omega)
end Go.Proofs.Ytejabkmhpiabnaa
