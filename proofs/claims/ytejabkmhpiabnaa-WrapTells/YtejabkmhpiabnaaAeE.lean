/- The contracts of aes.Key.Encrypt and aes.Key.Decrypt. -/
import Derived.Test.YtejabkmhpiabnaaAeK
namespace Go.Proofs.Ytejabkmhpiabnaa
open Go.RowKit
set_option linter.unusedSimpArgs false
attribute [local go_sem] YieldsP execOp
attribute [local simp] MP.eq_p
set_option maxRecDepth 20000 in
set_option maxHeartbeats 2000000 in
theorem aenc_fun (fl : List Nat) (r : Nat) (hl : fl.length = 240) (lf : ∀ x ∈ fl, x < 256) (hr : r ≤ 14) (b : List Nat) (hb : A.ok 16 b) (w : World) :
    Calls Try.prog 24 #[.agg (kC fl r).toArray, aB b] w fun e w' => e = .returned (aB (A.encR (kf fl) r b)) ∧ Below w.heap.size w w' := by
  obtain ⟨E, hE⟩ : ∃ E : Nat → List Nat, E = A.encN (kf fl) r b := ⟨_, rfl⟩
  have AD : Hid (∀ (s : List Nat) (rd : Nat) (W : World), A.ok 16 s → rd ≤ 14 → Calls Try.prog 37 #[.agg (kC fl r).toArray, aB s, .int .i64 (rd : Int)] W fun e w' => e = .returned (aB (A.addK s (kf fl rd))) ∧ Below W.heap.size W w') := fun s rd W hs h => aaddK_fun fl r hl lf s hs rd h W
  have EO : Hid (∀ j, j ≤ r → A.ok 16 (E j)) := fun j hj => by rw [hE]; exact A.encN_ok (fun j _ => kf_ok lf j) hb j hj
  have E0 : Hid (A.addK b (kf fl 0) = E 0) := by rw [hE]; exact rfl
  have ES : Hid (∀ j, A.addK (if j + 1 = r then A.shift (A.subAll (E j)) else A.mixAll (A.shift (A.subAll (E j)))) (kf fl (j + 1)) = E (j + 1)) := fun j => by rw [hE]; exact rfl
  have EE : Hid (A.encR (kf fl) r b = E r) := by rw [hE]; exact rfl
  rw [EE.out]
  have KR : Hid ((kC fl r)[240]? = some (.int .i64 (r : Int))) := kC_rounds r hl
  have IK : Hid _ := info_k (fl := fl) r hl
  have A0 : Hid _ := fun W => AD.out b 0 W hb (by decide)
  rw [E0.out] at A0
  have BL : Hid (b.length = 16) := hb.1
  have R14 : Hid (r ≤ 14) := hr
  obtain ⟨xk, x0, x1, x2⟩ := al3 w (kC fl r).toArray (b.map b8).toArray #[Value.int IntKind.u8 0, Value.int IntKind.u8 0, Value.int IntKind.u8 0, Value.int IntKind.u8 0, Value.int IntKind.u8 0, Value.int IntKind.u8 0, Value.int IntKind.u8 0, Value.int IntKind.u8 0, Value.int IntKind.u8 0, Value.int IntKind.u8 0, Value.int IntKind.u8 0, Value.int IntKind.u8 0, Value.int IntKind.u8 0, Value.int IntKind.u8 0, Value.int IntKind.u8 0, Value.int IntKind.u8 0] 26 57 57
  have XK : Hid (Blk _ w.heap.size (kC fl r)) := xk
  have X0 : Hid (Blk _ (w.heap.size + 1) (b.map b8)) := x0
  have X1 : Hid (Blk _ (w.heap.size + 1 + 1) (zB 16)) := x1
  have X2 : Hid (Below w.heap.size w _) := x2
  obtain ⟨dk, uk, rk⟩ := u_key
  have UK : Hid (Try.prog.underlying 26 = some dk ∧ dk.isRow = true) := ⟨uk, rk⟩
  generalize kC fl r = kc at *
  clear x0 x1 x2 xk hb hE E0 EE hl lf uk rk hr
  have L0 : Hid ((E 0).length = 16) := (EO.out 0 (Nat.zero_le _)).1
  have z0 : (((0 : Nat) : Nat) : Int) = 0 := rfl
  rw [z0] at A0
  clear z0
  go_enter Try.func24, Try.ntmps24
  go_wp2_with (first | simp only [zero_a16] | refine wpList_load_mid rfl 26 (.tmp 2) rfl w.heap.size 0 rfl kc _ XK.out.all UK.out.1 UK.out.2 IK.out ?_ | refine wpList_load_mid rfl 57 (.tmp 3) rfl (w.heap.size + 1) 0 rfl (b.map b8) _ X0.out.all u_a16 rfl (info_n info_a16 b BL.out) ?_)
  refine Calls.mono (A0.out _) ?_
  rintro e w1 ⟨rfl, hb1⟩
  have ZK : Hid (Blk w1 w.heap.size kc) := XK.out.up hb1 XK.out.lt
  have Z0 : Hid (Blk w1 (w.heap.size + 1) (b.map b8)) := X0.out.up hb1 X0.out.lt
  have Z1 : Hid (Blk w1 (w.heap.size + 1 + 1) (zB 16)) := X1.out.up hb1 X1.out.lt
  have Z2 : Hid (Below w.heap.size w w1) := X2.out.trans (hb1.mono X2.out.size)
  clear hb1 XK X0 X1 X2
  have XK : Hid (Blk w1 w.heap.size kc) := ZK
  have X0 : Hid (Blk w1 (w.heap.size + 1) (b.map b8)) := Z0
  have X1 : Hid (Blk w1 (w.heap.size + 1 + 1) (zB 16)) := Z1
  have X2 : Hid (Below w.heap.size w w1) := Z2
  clear ZK Z0 Z1 Z2
  generalize hE0 : E 0 = e0 at *
  have HE0 : Hid (E 0 = e0) := hE0
  clear hE0 A0
  have T2 : Hid (w1.there (w.heap.size + 1) 0 (e0.map b8).length) := X0.out.there (by rw [List.length_map, List.length_map, L0.out, BL.out]; omega)
  go_wp2_with (refine wp_store_eq rfl 57 (.tmp 3) (.tmp 8) rfl (w.heap.size + 1) 0 (e0.map b8) rfl rfl T2.out (info_n info_a16 e0 L0.out) (one_b8 _) ?_)
  intro w2 hw2
  have ZK : Hid (Blk w2 w.heap.size kc) := by rw [hw2.out]; exact XK.out.apart (by omega)
  have Z0 : Hid (Blk w2 (w.heap.size + 1) (e0.map b8)) := by rw [hw2.out]; exact X0.out.put (by rw [List.length_map, List.length_map, L0.out, BL.out])
  have Z1 : Hid (Blk w2 (w.heap.size + 1 + 1) (zB 16)) := by rw [hw2.out]; exact X1.out.apart (by omega)
  have Z2 : Hid (Below w.heap.size w w2) := by rw [hw2.out]; exact below_setCells _ _ _ X2.out (by omega)
  clear hw2 T2 XK X0 X1 X2
  have XK : Hid (Blk w2 w.heap.size kc) := ZK
  have X0 : Hid (Blk w2 (w.heap.size + 1) (e0.map b8)) := Z0
  have X1 : Hid (Blk w2 (w.heap.size + 1 + 1) (zB 16)) := Z1
  have X2 : Hid (Below w.heap.size w w2) := Z2
  clear ZK Z0 Z1 Z2
  rw [← HE0.out] at X0
  clear HE0 L0
  go_wp2_with fail
  go_loopw [5] (fun i wr => ∃ j : Nat, j ≤ r ∧ i = .int .i64 ((j + 1 : Nat) : Int) ∧ Hid (Blk wr w.heap.size kc) ∧ Hid (Blk wr (w.heap.size + 1) ((E j).map b8)) ∧ Hid (Blk wr (w.heap.size + 1 + 1) (zB 16)) ∧ Hid (Below w.heap.size w wr)) (fun i _ => r + 1 - (intOf i).toNat)
  case atStart => exact ⟨0, Nat.zero_le _, rfl, XK, X0, X1, X2⟩
  case round =>
    clear XK X0 X1 X2
    obtain ⟨j, hj, rfl, XK, X0, X1, X2⟩ := hrel
    have EJ : Hid (A.ok 16 (E j)) := EO.out j hj
    have cr := XK.out.cell 240 _ KR.out
    obtain ⟨i, hi⟩ : ∃ i, i = j + 1 := ⟨_, rfl⟩
    rw [← hi]
    have HI : Hid (i = j + 1) := hi
    by_cases hj1 : j < r
    · have JR : Hid (j < r) := hj1
      have le1 : (i : Int) ≤ (r : Int) := by omega
      have wi : IntKind.i64.wrap ((i : Int) + 1) = (i : Int) + 1 := by rw [IntKind.wrap_i64]; have := R14.out; omega
      have SB : Hid _ := fun W => asubAll_fun (E j) EJ.out W
      have SO : Hid (A.ok 16 (A.subAll (E j))) := A.subAll_ok _
      have SH : Hid _ := fun W => ashift1_fun (A.subAll (E j)) SO.out W
      have HO : Hid (A.ok 16 (A.shift (A.subAll (E j)))) := A.shift_ok SO.out
      have SE : Hid _ := ES.out j
      have EL : Hid ((E j).length = 16) := EJ.out.1
      have EN : Hid (A.ok 16 (E (j + 1))) := EO.out (j + 1) hj1
      rw [← hi] at SE EN
      generalize hn : E i = en at *
      have HN : Hid (E i = en) := hn
      generalize A.subAll (E j) = sb at *
      generalize A.shift sb = sh at *
      generalize E j = ej at *
      have NL : Hid (en.length = 16) := EN.out.1
      have HL : Hid (sh.length = 16) := HO.out.1
      clear hj hj1 hi hn EN EJ SO
      go_wp2_with (refine wpList_load_mid rfl 57 (.tmp 3) rfl (w.heap.size + 1) 0 rfl (ej.map b8) _ X0.out.all u_a16 rfl (info_n info_a16 ej EL.out) ?_)
      refine Calls.mono (SB.out _) ?_
      rintro e w3 ⟨rfl, hb3⟩
      have ZK : Hid (Blk w3 w.heap.size kc) := XK.out.up hb3 XK.out.lt
      have Z0 : Hid (Blk w3 (w.heap.size + 1) (ej.map b8)) := X0.out.up hb3 X0.out.lt
      have Z1 : Hid (Blk w3 (w.heap.size + 1 + 1) (zB 16)) := X1.out.up hb3 X1.out.lt
      have Z2 : Hid (Below w.heap.size w w3) := X2.out.trans (hb3.mono X2.out.size)
      clear hb3 XK X0 X1 X2
      have XK : Hid (Blk w3 w.heap.size kc) := ZK
      have X0 : Hid (Blk w3 (w.heap.size + 1) (ej.map b8)) := Z0
      have X1 : Hid (Blk w3 (w.heap.size + 1 + 1) (zB 16)) := Z1
      have X2 : Hid (Below w.heap.size w w3) := Z2
      clear ZK Z0 Z1 Z2
      clear cr SB
      go_wp2_with fail
      refine Calls.mono (SH.out _) ?_
      rintro e w4 ⟨rfl, hb4⟩
      have ZK : Hid (Blk w4 w.heap.size kc) := XK.out.up hb4 XK.out.lt
      have Z0 : Hid (Blk w4 (w.heap.size + 1) (ej.map b8)) := X0.out.up hb4 X0.out.lt
      have Z1 : Hid (Blk w4 (w.heap.size + 1 + 1) (zB 16)) := X1.out.up hb4 X1.out.lt
      have Z2 : Hid (Below w.heap.size w w4) := X2.out.trans (hb4.mono X2.out.size)
      clear hb4 XK X0 X1 X2
      have XK : Hid (Blk w4 w.heap.size kc) := ZK
      have X0 : Hid (Blk w4 (w.heap.size + 1) (ej.map b8)) := Z0
      have X1 : Hid (Blk w4 (w.heap.size + 1 + 1) (zB 16)) := Z1
      have X2 : Hid (Below w.heap.size w w4) := Z2
      clear ZK Z0 Z1 Z2
      clear SH
      have T5 : Hid (w4.there (w.heap.size + 1) 0 (sh.map b8).length) := X0.out.there (by rw [List.length_map, List.length_map, HL.out, EL.out]; omega)
      go_wp2_with (refine wp_store_eq rfl 57 (.tmp 3) (.tmp 17) rfl (w.heap.size + 1) 0 (sh.map b8) rfl rfl T5.out (info_n info_a16 sh HL.out) (one_b8 _) ?_)
      intro w5 hw5
      have ZK : Hid (Blk w5 w.heap.size kc) := by rw [hw5.out]; exact XK.out.apart (by omega)
      have Z0 : Hid (Blk w5 (w.heap.size + 1) (sh.map b8)) := by rw [hw5.out]; exact X0.out.put (by rw [List.length_map, List.length_map, HL.out, EL.out])
      have Z1 : Hid (Blk w5 (w.heap.size + 1 + 1) (zB 16)) := by rw [hw5.out]; exact X1.out.apart (by omega)
      have Z2 : Hid (Below w.heap.size w w5) := by rw [hw5.out]; exact below_setCells _ _ _ X2.out (by omega)
      clear hw5 T5 XK X0 X1 X2
      have XK : Hid (Blk w5 w.heap.size kc) := ZK
      have X0 : Hid (Blk w5 (w.heap.size + 1) (sh.map b8)) := Z0
      have X1 : Hid (Blk w5 (w.heap.size + 1 + 1) (zB 16)) := Z1
      have X2 : Hid (Below w.heap.size w w5) := Z2
      clear ZK Z0 Z1 Z2
      have cr := XK.out.cell 240 _ KR.out
      by_cases hjr : i = r
      · have nlt : ¬ (i : Int) < (r : Int) := by omega
        have AX : Hid _ := fun W => AD.out sh i W HO.out (by have := R14.out; omega)
        have SE' := SE.out
        rw [if_pos hjr] at SE'
        rw [SE'] at AX
        clear SE' SE hjr
        go_wp2_with (first | refine wpList_load_mid rfl 26 (.tmp 2) rfl w.heap.size 0 rfl kc _ XK.out.all UK.out.1 UK.out.2 IK.out ?_ | refine wpList_load_mid rfl 57 (.tmp 3) rfl (w.heap.size + 1) 0 rfl (sh.map b8) _ X0.out.all u_a16 rfl (info_n info_a16 sh HL.out) ?_)
        refine Calls.mono (AX.out _) ?_
        rintro e w6 ⟨rfl, hb6⟩
        have ZK : Hid (Blk w6 w.heap.size kc) := XK.out.up hb6 XK.out.lt
        have Z0 : Hid (Blk w6 (w.heap.size + 1) (sh.map b8)) := X0.out.up hb6 X0.out.lt
        have Z1 : Hid (Blk w6 (w.heap.size + 1 + 1) (zB 16)) := X1.out.up hb6 X1.out.lt
        have Z2 : Hid (Below w.heap.size w w6) := X2.out.trans (hb6.mono X2.out.size)
        clear hb6 XK X0 X1 X2
        have XK : Hid (Blk w6 w.heap.size kc) := ZK
        have X0 : Hid (Blk w6 (w.heap.size + 1) (sh.map b8)) := Z0
        have X1 : Hid (Blk w6 (w.heap.size + 1 + 1) (zB 16)) := Z1
        have X2 : Hid (Below w.heap.size w w6) := Z2
        clear ZK Z0 Z1 Z2
        clear cr AX
        have T7 : Hid (w6.there (w.heap.size + 1) 0 (en.map b8).length) := X0.out.there (by rw [List.length_map, List.length_map, NL.out, HL.out]; omega)
        go_wp2_with (refine wp_store_eq rfl 57 (.tmp 3) (.tmp 27) rfl (w.heap.size + 1) 0 (en.map b8) rfl rfl T7.out (info_n info_a16 en NL.out) (one_b8 _) ?_)
        intro w7 hw7
        have ZK : Hid (Blk w7 w.heap.size kc) := by rw [hw7.out]; exact XK.out.apart (by omega)
        have Z0 : Hid (Blk w7 (w.heap.size + 1) (en.map b8)) := by rw [hw7.out]; exact X0.out.put (by rw [List.length_map, List.length_map, NL.out, HL.out])
        have Z1 : Hid (Blk w7 (w.heap.size + 1 + 1) (zB 16)) := by rw [hw7.out]; exact X1.out.apart (by omega)
        have Z2 : Hid (Below w.heap.size w w7) := by rw [hw7.out]; exact below_setCells _ _ _ X2.out (by omega)
        clear hw7 T7 XK X0 X1 X2
        have XK : Hid (Blk w7 w.heap.size kc) := ZK
        have X0 : Hid (Blk w7 (w.heap.size + 1) (en.map b8)) := Z0
        have X1 : Hid (Blk w7 (w.heap.size + 1 + 1) (zB 16)) := Z1
        have X2 : Hid (Below w.heap.size w w7) := Z2
        clear ZK Z0 Z1 Z2
        go_wp2_with fail
        go_roundw
        case rel => exact ⟨i, by have := JR.out; have := HI.out; omega, by first | rfl | go_num, XK, by rw [HN.out]; exact X0, X1, X2⟩
        case measure => have := JR.out; have := HI.out; simp [intOf]; omega
      · have lt1 : (i : Int) < (r : Int) := by have := JR.out; have := HI.out; omega
        have MX : Hid _ := fun W => amixAll_fun sh HO.out W
        have MO : Hid (A.ok 16 (A.mixAll sh)) := A.mixAll_ok HO.out
        have AX : Hid _ := fun W => AD.out (A.mixAll sh) i W MO.out (by have := R14.out; omega)
        have SE' := SE.out
        rw [if_neg hjr] at SE'
        rw [SE'] at AX
        clear SE' SE hjr
        generalize A.mixAll sh = mx at *
        have ML : Hid (mx.length = 16) := MO.out.1
        clear MO
        go_wp2_with (refine wpList_load_mid rfl 57 (.tmp 3) rfl (w.heap.size + 1) 0 rfl (sh.map b8) _ X0.out.all u_a16 rfl (info_n info_a16 sh HL.out) ?_)
        refine Calls.mono (MX.out _) ?_
        rintro e w6 ⟨rfl, hb6⟩
        have ZK : Hid (Blk w6 w.heap.size kc) := XK.out.up hb6 XK.out.lt
        have Z0 : Hid (Blk w6 (w.heap.size + 1) (sh.map b8)) := X0.out.up hb6 X0.out.lt
        have Z1 : Hid (Blk w6 (w.heap.size + 1 + 1) (zB 16)) := X1.out.up hb6 X1.out.lt
        have Z2 : Hid (Below w.heap.size w w6) := X2.out.trans (hb6.mono X2.out.size)
        clear hb6 XK X0 X1 X2
        have XK : Hid (Blk w6 w.heap.size kc) := ZK
        have X0 : Hid (Blk w6 (w.heap.size + 1) (sh.map b8)) := Z0
        have X1 : Hid (Blk w6 (w.heap.size + 1 + 1) (zB 16)) := Z1
        have X2 : Hid (Below w.heap.size w w6) := Z2
        clear ZK Z0 Z1 Z2
        clear cr MX
        have T7 : Hid (w6.there (w.heap.size + 1) 0 (mx.map b8).length) := X0.out.there (by rw [List.length_map, List.length_map, ML.out, HL.out]; omega)
        go_wp2_with (refine wp_store_eq rfl 57 (.tmp 3) (.tmp 23) rfl (w.heap.size + 1) 0 (mx.map b8) rfl rfl T7.out (info_n info_a16 mx ML.out) (one_b8 _) ?_)
        intro w7 hw7
        have ZK : Hid (Blk w7 w.heap.size kc) := by rw [hw7.out]; exact XK.out.apart (by omega)
        have Z0 : Hid (Blk w7 (w.heap.size + 1) (mx.map b8)) := by rw [hw7.out]; exact X0.out.put (by rw [List.length_map, List.length_map, ML.out, HL.out])
        have Z1 : Hid (Blk w7 (w.heap.size + 1 + 1) (zB 16)) := by rw [hw7.out]; exact X1.out.apart (by omega)
        have Z2 : Hid (Below w.heap.size w w7) := by rw [hw7.out]; exact below_setCells _ _ _ X2.out (by omega)
        clear hw7 T7 XK X0 X1 X2
        have XK : Hid (Blk w7 w.heap.size kc) := ZK
        have X0 : Hid (Blk w7 (w.heap.size + 1) (mx.map b8)) := Z0
        have X1 : Hid (Blk w7 (w.heap.size + 1 + 1) (zB 16)) := Z1
        have X2 : Hid (Below w.heap.size w w7) := Z2
        clear ZK Z0 Z1 Z2
        go_wp2_with (first | refine wpList_load_mid rfl 26 (.tmp 2) rfl w.heap.size 0 rfl kc _ XK.out.all UK.out.1 UK.out.2 IK.out ?_ | refine wpList_load_mid rfl 57 (.tmp 3) rfl (w.heap.size + 1) 0 rfl (mx.map b8) _ X0.out.all u_a16 rfl (info_n info_a16 mx ML.out) ?_)
        refine Calls.mono (AX.out _) ?_
        rintro e w8 ⟨rfl, hb8⟩
        have ZK : Hid (Blk w8 w.heap.size kc) := XK.out.up hb8 XK.out.lt
        have Z0 : Hid (Blk w8 (w.heap.size + 1) (mx.map b8)) := X0.out.up hb8 X0.out.lt
        have Z1 : Hid (Blk w8 (w.heap.size + 1 + 1) (zB 16)) := X1.out.up hb8 X1.out.lt
        have Z2 : Hid (Below w.heap.size w w8) := X2.out.trans (hb8.mono X2.out.size)
        clear hb8 XK X0 X1 X2
        have XK : Hid (Blk w8 w.heap.size kc) := ZK
        have X0 : Hid (Blk w8 (w.heap.size + 1) (mx.map b8)) := Z0
        have X1 : Hid (Blk w8 (w.heap.size + 1 + 1) (zB 16)) := Z1
        have X2 : Hid (Below w.heap.size w w8) := Z2
        clear ZK Z0 Z1 Z2
        clear AX
        have T9 : Hid (w8.there (w.heap.size + 1) 0 (en.map b8).length) := X0.out.there (by rw [List.length_map, List.length_map, NL.out, ML.out]; omega)
        go_wp2_with (refine wp_store_eq rfl 57 (.tmp 3) (.tmp 27) rfl (w.heap.size + 1) 0 (en.map b8) rfl rfl T9.out (info_n info_a16 en NL.out) (one_b8 _) ?_)
        intro w9 hw9
        have ZK : Hid (Blk w9 w.heap.size kc) := by rw [hw9.out]; exact XK.out.apart (by omega)
        have Z0 : Hid (Blk w9 (w.heap.size + 1) (en.map b8)) := by rw [hw9.out]; exact X0.out.put (by rw [List.length_map, List.length_map, NL.out, ML.out])
        have Z1 : Hid (Blk w9 (w.heap.size + 1 + 1) (zB 16)) := by rw [hw9.out]; exact X1.out.apart (by omega)
        have Z2 : Hid (Below w.heap.size w w9) := by rw [hw9.out]; exact below_setCells _ _ _ X2.out (by omega)
        clear hw9 T9 XK X0 X1 X2
        have XK : Hid (Blk w9 w.heap.size kc) := ZK
        have X0 : Hid (Blk w9 (w.heap.size + 1) (en.map b8)) := Z0
        have X1 : Hid (Blk w9 (w.heap.size + 1 + 1) (zB 16)) := Z1
        have X2 : Hid (Below w.heap.size w w9) := Z2
        clear ZK Z0 Z1 Z2
        go_wp2_with fail
        go_roundw
        case rel => exact ⟨i, by have := JR.out; have := HI.out; omega, by first | rfl | go_num, XK, by rw [HN.out]; exact X0, X1, X2⟩
        case measure => have := JR.out; have := HI.out; simp [intOf]; omega
    · obtain rfl : j = r := by omega
      have nle : ¬ (i : Int) ≤ (j : Int) := by omega
      have EL : Hid ((E j).length = 16) := EJ.out.1
      obtain ⟨ej, hej⟩ : ∃ ej, ej = E j := ⟨_, rfl⟩
      rw [← hej] at EL X0
      have HEJ : Hid (ej = E j) := hej
      clear hj hj1 EJ hej
      have T0 : Hid (wr.there (w.heap.size + 1 + 1) 0 (ej.map b8).length) := X1.out.there (by rw [List.length_map, EL.out, zB_length]; omega)
      go_wp2_with (first | refine wpList_load_mid rfl 57 (.tmp 3) rfl (w.heap.size + 1) 0 rfl (ej.map b8) _ X0.out.all u_a16 rfl (info_n info_a16 ej EL.out) ?_ | refine wp_store_eq rfl 57 (.tmp 4) (.tmp 28) rfl (w.heap.size + 1 + 1) 0 (ej.map b8) rfl rfl T0.out (info_n info_a16 ej EL.out) (one_b8 _) ?_)
      intro w9 hw9
      go_wp2_with fail
      refine bodyPost_ret (v := aB ej) ?_ rfl ⟨by rw [HEJ.out], ?_⟩
      · rw [hw9.out]
        exact results_cell (b := w.heap.size + 1 + 1) rfl rfl (World.rangeAt_setCells_same _ _ _ _ T0.out) u_a16 rfl (info_n info_a16 ej EL.out)
      · rw [hw9.out]
        exact below_setCells _ _ _ X2.out (by omega)
set_option maxRecDepth 20000 in
set_option maxHeartbeats 2000000 in
theorem adec_fun (fl : List Nat) (r : Nat) (hl : fl.length = 240) (lf : ∀ x ∈ fl, x < 256) (hr : r ≤ 14) (b : List Nat) (hb : A.ok 16 b) (w : World) :
    Calls Try.prog 32 #[.agg (kC fl r).toArray, aB b] w fun e w' => e = .returned (aB (A.decR (kf fl) r b)) ∧ Below w.heap.size w w' := by
  obtain ⟨D, hD⟩ : ∃ D : Nat → List Nat, D = A.decN (kf fl) r b := ⟨_, rfl⟩
  have AD : Hid (∀ (s : List Nat) (rd : Nat) (W : World), A.ok 16 s → rd ≤ 14 → Calls Try.prog 37 #[.agg (kC fl r).toArray, aB s, .int .i64 (rd : Int)] W fun e w' => e = .returned (aB (A.addK s (kf fl rd))) ∧ Below W.heap.size W w') := fun s rd W hs h => aaddK_fun fl r hl lf s hs rd h W
  have AO : Hid (∀ (s : List Nat) (rd : Nat), A.ok 16 s → A.ok 16 (A.addK s (kf fl rd))) := fun s rd hs => A.addK_ok hs (kf_ok lf rd)
  have DO : Hid (∀ j, A.ok 16 (D j)) := fun j => by rw [hD]; exact A.decN_ok hb j
  have D0 : Hid (b = D 0) := by rw [hD]; exact rfl
  have DS : Hid (∀ k, D (k + 1) = A.unsubAll (A.unshift (if r - k = r then A.addK (D k) (kf fl (r - k)) else A.unmixAll (A.addK (D k) (kf fl (r - k)))))) := fun k => by rw [hD]; exact rfl
  have EE : Hid (A.decR (kf fl) r b = A.addK (D r) (kf fl 0)) := by rw [hD]; exact rfl
  rw [EE.out]
  have KR : Hid ((kC fl r)[240]? = some (.int .i64 (r : Int))) := kC_rounds r hl
  have IK : Hid _ := info_k (fl := fl) r hl
  have BL : Hid (b.length = 16) := hb.1
  have R14 : Hid (r ≤ 14) := hr
  obtain ⟨xk, x0, x1, x2⟩ := al3 w (kC fl r).toArray (b.map b8).toArray #[Value.int IntKind.u8 0, Value.int IntKind.u8 0, Value.int IntKind.u8 0, Value.int IntKind.u8 0, Value.int IntKind.u8 0, Value.int IntKind.u8 0, Value.int IntKind.u8 0, Value.int IntKind.u8 0, Value.int IntKind.u8 0, Value.int IntKind.u8 0, Value.int IntKind.u8 0, Value.int IntKind.u8 0, Value.int IntKind.u8 0, Value.int IntKind.u8 0, Value.int IntKind.u8 0, Value.int IntKind.u8 0] 26 57 57
  have XK : Hid (Blk _ w.heap.size (kC fl r)) := xk
  have X0 : Hid (Blk _ (w.heap.size + 1) (b.map b8)) := x0
  have X1 : Hid (Blk _ (w.heap.size + 1 + 1) (zB 16)) := x1
  have X2 : Hid (Below w.heap.size w _) := x2
  obtain ⟨dk, uk, rk⟩ := u_key
  have UK : Hid (Try.prog.underlying 26 = some dk ∧ dk.isRow = true) := ⟨uk, rk⟩
  generalize kC fl r = kc at *
  have cr := X0.out.lt
  have cr := XK.out.cell 240 _ KR.out
  clear x0 x1 x2 xk hb hD EE hl lf uk rk hr
  go_enter Try.func32, Try.ntmps32
  go_wp2_with (simp only [zero_a16])
  generalize World.alloc (World.alloc (w.alloc _) _) _ = w1 at *
  have Y0 : Hid (Blk w1 (w.heap.size + 1) ((D 0).map b8)) := by rw [← D0.out]; exact X0
  clear X0 cr D0
  go_loopw [5] (fun i wr => ∃ k : Nat, k ≤ r ∧ i = .int .i64 ((r - k : Nat) : Int) ∧ Hid (Blk wr w.heap.size kc) ∧ Hid (Blk wr (w.heap.size + 1) ((D k).map b8)) ∧ Hid (Blk wr (w.heap.size + 1 + 1) (zB 16)) ∧ Hid (Below w.heap.size w wr)) (fun i _ => (intOf i).toNat)
  case atStart => exact ⟨0, Nat.zero_le _, rfl, XK, Y0, X1, X2⟩
  case round =>
    clear XK Y0 X1 X2
    obtain ⟨k, hk, rfl, XK, X0, X1, X2⟩ := hrel
    have DK : Hid (A.ok 16 (D k)) := DO.out k
    obtain ⟨i, hi⟩ : ∃ i, i = r - k := ⟨_, rfl⟩
    rw [← hi]
    have HI : Hid (i = r - k) := hi
    by_cases hk1 : k < r
    · have KR1 : Hid (k < r) := hk1
      have gt1 : (0 : Int) < (i : Int) := by omega
      have wi : IntKind.i64.wrap ((i : Int) - 1) = (i : Int) - 1 := by rw [IntKind.wrap_i64]; have := R14.out; omega
      have AX : Hid _ := fun W => AD.out (D k) i W DK.out (by have := R14.out; omega)
      have OX : Hid (A.ok 16 (A.addK (D k) (kf fl i))) := AO.out _ _ DK.out
      have SE : Hid _ := DS.out k
      have EL : Hid ((D k).length = 16) := DK.out.1
      have EN : Hid (A.ok 16 (D (k + 1))) := DO.out (k + 1)
      rw [← hi] at SE
      generalize hn : D (k + 1) = en at *
      have HN : Hid (D (k + 1) = en) := hn
      generalize A.addK (D k) (kf fl i) = ax at *
      generalize D k = ej at *
      have NL : Hid (en.length = 16) := EN.out.1
      have XL : Hid (ax.length = 16) := OX.out.1
      clear hk hk1 hi hn EN DK
      go_wp2_with (first | refine wpList_load_mid rfl 26 (.tmp 2) rfl w.heap.size 0 rfl kc _ XK.out.all UK.out.1 UK.out.2 IK.out ?_ | refine wpList_load_mid rfl 57 (.tmp 3) rfl (w.heap.size + 1) 0 rfl (ej.map b8) _ X0.out.all u_a16 rfl (info_n info_a16 ej EL.out) ?_)
      refine Calls.mono (AX.out _) ?_
      rintro e w3 ⟨rfl, hb3⟩
      have ZK : Hid (Blk w3 w.heap.size kc) := XK.out.up hb3 XK.out.lt
      have Z0 : Hid (Blk w3 (w.heap.size + 1) (ej.map b8)) := X0.out.up hb3 X0.out.lt
      have Z1 : Hid (Blk w3 (w.heap.size + 1 + 1) (zB 16)) := X1.out.up hb3 X1.out.lt
      have Z2 : Hid (Below w.heap.size w w3) := X2.out.trans (hb3.mono X2.out.size)
      clear hb3 XK X0 X1 X2
      have XK : Hid (Blk w3 w.heap.size kc) := ZK
      have X0 : Hid (Blk w3 (w.heap.size + 1) (ej.map b8)) := Z0
      have X1 : Hid (Blk w3 (w.heap.size + 1 + 1) (zB 16)) := Z1
      have X2 : Hid (Below w.heap.size w w3) := Z2
      clear ZK Z0 Z1 Z2
      clear AX
      have T4 : Hid (w3.there (w.heap.size + 1) 0 (ax.map b8).length) := X0.out.there (by rw [List.length_map, List.length_map, XL.out, EL.out]; omega)
      go_wp2_with (refine wp_store_eq rfl 57 (.tmp 3) (.tmp 15) rfl (w.heap.size + 1) 0 (ax.map b8) rfl rfl T4.out (info_n info_a16 ax XL.out) (one_b8 _) ?_)
      intro w4 hw4
      have ZK : Hid (Blk w4 w.heap.size kc) := by rw [hw4.out]; exact XK.out.apart (by omega)
      have Z0 : Hid (Blk w4 (w.heap.size + 1) (ax.map b8)) := by rw [hw4.out]; exact X0.out.put (by rw [List.length_map, List.length_map, XL.out, EL.out])
      have Z1 : Hid (Blk w4 (w.heap.size + 1 + 1) (zB 16)) := by rw [hw4.out]; exact X1.out.apart (by omega)
      have Z2 : Hid (Below w.heap.size w w4) := by rw [hw4.out]; exact below_setCells _ _ _ X2.out (by omega)
      clear hw4 T4 XK X0 X1 X2
      have XK : Hid (Blk w4 w.heap.size kc) := ZK
      have X0 : Hid (Blk w4 (w.heap.size + 1) (ax.map b8)) := Z0
      have X1 : Hid (Blk w4 (w.heap.size + 1 + 1) (zB 16)) := Z1
      have X2 : Hid (Below w.heap.size w w4) := Z2
      clear ZK Z0 Z1 Z2
      have cr := XK.out.cell 240 _ KR.out
      by_cases hir : i = r
      · have nlt : ¬ (i : Int) < (r : Int) := by omega
        have SE' := SE.out
        rw [if_pos hir] at SE'
        have SH : Hid _ := fun W => ashift3_fun ax OX.out W
        have HO : Hid (A.ok 16 (A.unshift ax)) := A.unshift_ok OX.out
        have UB : Hid _ := fun W => aunsubAll_fun (A.unshift ax) HO.out W
        rw [← SE'] at UB
        generalize A.unshift ax = sh at *
        clear SE' SE hir HO
        go_wp2_with (refine wpList_load_mid rfl 57 (.tmp 3) rfl (w.heap.size + 1) 0 rfl (ax.map b8) _ X0.out.all u_a16 rfl (info_n info_a16 ax XL.out) ?_)
        refine Calls.mono (SH.out _) ?_
        rintro e w7 ⟨rfl, hb7⟩
        have ZK : Hid (Blk w7 w.heap.size kc) := XK.out.up hb7 XK.out.lt
        have Z0 : Hid (Blk w7 (w.heap.size + 1) (ax.map b8)) := X0.out.up hb7 X0.out.lt
        have Z1 : Hid (Blk w7 (w.heap.size + 1 + 1) (zB 16)) := X1.out.up hb7 X1.out.lt
        have Z2 : Hid (Below w.heap.size w w7) := X2.out.trans (hb7.mono X2.out.size)
        clear hb7 XK X0 X1 X2
        have XK : Hid (Blk w7 w.heap.size kc) := ZK
        have X0 : Hid (Blk w7 (w.heap.size + 1) (ax.map b8)) := Z0
        have X1 : Hid (Blk w7 (w.heap.size + 1 + 1) (zB 16)) := Z1
        have X2 : Hid (Below w.heap.size w w7) := Z2
        clear ZK Z0 Z1 Z2
        clear SH
        go_wp2_with fail
        refine Calls.mono (UB.out _) ?_
        rintro e w8 ⟨rfl, hb8⟩
        have ZK : Hid (Blk w8 w.heap.size kc) := XK.out.up hb8 XK.out.lt
        have Z0 : Hid (Blk w8 (w.heap.size + 1) (ax.map b8)) := X0.out.up hb8 X0.out.lt
        have Z1 : Hid (Blk w8 (w.heap.size + 1 + 1) (zB 16)) := X1.out.up hb8 X1.out.lt
        have Z2 : Hid (Below w.heap.size w w8) := X2.out.trans (hb8.mono X2.out.size)
        clear hb8 XK X0 X1 X2
        have XK : Hid (Blk w8 w.heap.size kc) := ZK
        have X0 : Hid (Blk w8 (w.heap.size + 1) (ax.map b8)) := Z0
        have X1 : Hid (Blk w8 (w.heap.size + 1 + 1) (zB 16)) := Z1
        have X2 : Hid (Below w.heap.size w w8) := Z2
        clear ZK Z0 Z1 Z2
        clear UB
        have T9 : Hid (w8.there (w.heap.size + 1) 0 (en.map b8).length) := X0.out.there (by rw [List.length_map, List.length_map, NL.out, XL.out]; omega)
        go_wp2_with (refine wp_store_eq rfl 57 (.tmp 3) (.tmp 24) rfl (w.heap.size + 1) 0 (en.map b8) rfl rfl T9.out (info_n info_a16 en NL.out) (one_b8 _) ?_)
        intro w9 hw9
        have ZK : Hid (Blk w9 w.heap.size kc) := by rw [hw9.out]; exact XK.out.apart (by omega)
        have Z0 : Hid (Blk w9 (w.heap.size + 1) (en.map b8)) := by rw [hw9.out]; exact X0.out.put (by rw [List.length_map, List.length_map, NL.out, XL.out])
        have Z1 : Hid (Blk w9 (w.heap.size + 1 + 1) (zB 16)) := by rw [hw9.out]; exact X1.out.apart (by omega)
        have Z2 : Hid (Below w.heap.size w w9) := by rw [hw9.out]; exact below_setCells _ _ _ X2.out (by omega)
        clear hw9 T9 XK X0 X1 X2
        have XK : Hid (Blk w9 w.heap.size kc) := ZK
        have X0 : Hid (Blk w9 (w.heap.size + 1) (en.map b8)) := Z0
        have X1 : Hid (Blk w9 (w.heap.size + 1 + 1) (zB 16)) := Z1
        have X2 : Hid (Below w.heap.size w w9) := Z2
        clear ZK Z0 Z1 Z2
        go_wp2_with fail
        go_roundw
        case rel => exact ⟨k + 1, KR1.out, by have := KR1.out; have := HI.out; first | (congr 1; omega), XK, by rw [HN.out]; exact X0, X1, X2⟩
        case measure => have := KR1.out; have := HI.out; simp [intOf]; omega
      · have lt1 : (i : Int) < (r : Int) := by have := KR1.out; have := HI.out; omega
        have SE' := SE.out
        rw [if_neg hir] at SE'
        have MX : Hid _ := fun W => aunmixAll_fun ax OX.out W
        have MO : Hid (A.ok 16 (A.unmixAll ax)) := A.unmixAll_ok OX.out
        generalize A.unmixAll ax = mx at *
        have SH : Hid _ := fun W => ashift3_fun mx MO.out W
        have HO : Hid (A.ok 16 (A.unshift mx)) := A.unshift_ok MO.out
        have UB : Hid _ := fun W => aunsubAll_fun (A.unshift mx) HO.out W
        rw [← SE'] at UB
        generalize A.unshift mx = sh at *
        have ML : Hid (mx.length = 16) := MO.out.1
        clear SE' SE hir HO MO
        go_wp2_with (refine wpList_load_mid rfl 57 (.tmp 3) rfl (w.heap.size + 1) 0 rfl (ax.map b8) _ X0.out.all u_a16 rfl (info_n info_a16 ax XL.out) ?_)
        refine Calls.mono (MX.out _) ?_
        rintro e w5 ⟨rfl, hb5⟩
        have ZK : Hid (Blk w5 w.heap.size kc) := XK.out.up hb5 XK.out.lt
        have Z0 : Hid (Blk w5 (w.heap.size + 1) (ax.map b8)) := X0.out.up hb5 X0.out.lt
        have Z1 : Hid (Blk w5 (w.heap.size + 1 + 1) (zB 16)) := X1.out.up hb5 X1.out.lt
        have Z2 : Hid (Below w.heap.size w w5) := X2.out.trans (hb5.mono X2.out.size)
        clear hb5 XK X0 X1 X2
        have XK : Hid (Blk w5 w.heap.size kc) := ZK
        have X0 : Hid (Blk w5 (w.heap.size + 1) (ax.map b8)) := Z0
        have X1 : Hid (Blk w5 (w.heap.size + 1 + 1) (zB 16)) := Z1
        have X2 : Hid (Below w.heap.size w w5) := Z2
        clear ZK Z0 Z1 Z2
        clear cr MX
        have T6 : Hid (w5.there (w.heap.size + 1) 0 (mx.map b8).length) := X0.out.there (by rw [List.length_map, List.length_map, ML.out, XL.out]; omega)
        go_wp2_with (refine wp_store_eq rfl 57 (.tmp 3) (.tmp 21) rfl (w.heap.size + 1) 0 (mx.map b8) rfl rfl T6.out (info_n info_a16 mx ML.out) (one_b8 _) ?_)
        intro w6 hw6
        have ZK : Hid (Blk w6 w.heap.size kc) := by rw [hw6.out]; exact XK.out.apart (by omega)
        have Z0 : Hid (Blk w6 (w.heap.size + 1) (mx.map b8)) := by rw [hw6.out]; exact X0.out.put (by rw [List.length_map, List.length_map, ML.out, XL.out])
        have Z1 : Hid (Blk w6 (w.heap.size + 1 + 1) (zB 16)) := by rw [hw6.out]; exact X1.out.apart (by omega)
        have Z2 : Hid (Below w.heap.size w w6) := by rw [hw6.out]; exact below_setCells _ _ _ X2.out (by omega)
        clear hw6 T6 XK X0 X1 X2
        have XK : Hid (Blk w6 w.heap.size kc) := ZK
        have X0 : Hid (Blk w6 (w.heap.size + 1) (mx.map b8)) := Z0
        have X1 : Hid (Blk w6 (w.heap.size + 1 + 1) (zB 16)) := Z1
        have X2 : Hid (Below w.heap.size w w6) := Z2
        clear ZK Z0 Z1 Z2
        go_wp2_with (refine wpList_load_mid rfl 57 (.tmp 3) rfl (w.heap.size + 1) 0 rfl (mx.map b8) _ X0.out.all u_a16 rfl (info_n info_a16 mx ML.out) ?_)
        refine Calls.mono (SH.out _) ?_
        rintro e w7 ⟨rfl, hb7⟩
        have ZK : Hid (Blk w7 w.heap.size kc) := XK.out.up hb7 XK.out.lt
        have Z0 : Hid (Blk w7 (w.heap.size + 1) (mx.map b8)) := X0.out.up hb7 X0.out.lt
        have Z1 : Hid (Blk w7 (w.heap.size + 1 + 1) (zB 16)) := X1.out.up hb7 X1.out.lt
        have Z2 : Hid (Below w.heap.size w w7) := X2.out.trans (hb7.mono X2.out.size)
        clear hb7 XK X0 X1 X2
        have XK : Hid (Blk w7 w.heap.size kc) := ZK
        have X0 : Hid (Blk w7 (w.heap.size + 1) (mx.map b8)) := Z0
        have X1 : Hid (Blk w7 (w.heap.size + 1 + 1) (zB 16)) := Z1
        have X2 : Hid (Below w.heap.size w w7) := Z2
        clear ZK Z0 Z1 Z2
        clear SH
        go_wp2_with fail
        refine Calls.mono (UB.out _) ?_
        rintro e w8 ⟨rfl, hb8⟩
        have ZK : Hid (Blk w8 w.heap.size kc) := XK.out.up hb8 XK.out.lt
        have Z0 : Hid (Blk w8 (w.heap.size + 1) (mx.map b8)) := X0.out.up hb8 X0.out.lt
        have Z1 : Hid (Blk w8 (w.heap.size + 1 + 1) (zB 16)) := X1.out.up hb8 X1.out.lt
        have Z2 : Hid (Below w.heap.size w w8) := X2.out.trans (hb8.mono X2.out.size)
        clear hb8 XK X0 X1 X2
        have XK : Hid (Blk w8 w.heap.size kc) := ZK
        have X0 : Hid (Blk w8 (w.heap.size + 1) (mx.map b8)) := Z0
        have X1 : Hid (Blk w8 (w.heap.size + 1 + 1) (zB 16)) := Z1
        have X2 : Hid (Below w.heap.size w w8) := Z2
        clear ZK Z0 Z1 Z2
        clear UB
        have T9 : Hid (w8.there (w.heap.size + 1) 0 (en.map b8).length) := X0.out.there (by rw [List.length_map, List.length_map, NL.out, ML.out]; omega)
        go_wp2_with (refine wp_store_eq rfl 57 (.tmp 3) (.tmp 24) rfl (w.heap.size + 1) 0 (en.map b8) rfl rfl T9.out (info_n info_a16 en NL.out) (one_b8 _) ?_)
        intro w9 hw9
        have ZK : Hid (Blk w9 w.heap.size kc) := by rw [hw9.out]; exact XK.out.apart (by omega)
        have Z0 : Hid (Blk w9 (w.heap.size + 1) (en.map b8)) := by rw [hw9.out]; exact X0.out.put (by rw [List.length_map, List.length_map, NL.out, ML.out])
        have Z1 : Hid (Blk w9 (w.heap.size + 1 + 1) (zB 16)) := by rw [hw9.out]; exact X1.out.apart (by omega)
        have Z2 : Hid (Below w.heap.size w w9) := by rw [hw9.out]; exact below_setCells _ _ _ X2.out (by omega)
        clear hw9 T9 XK X0 X1 X2
        have XK : Hid (Blk w9 w.heap.size kc) := ZK
        have X0 : Hid (Blk w9 (w.heap.size + 1) (en.map b8)) := Z0
        have X1 : Hid (Blk w9 (w.heap.size + 1 + 1) (zB 16)) := Z1
        have X2 : Hid (Below w.heap.size w w9) := Z2
        clear ZK Z0 Z1 Z2
        go_wp2_with fail
        go_roundw
        case rel => exact ⟨k + 1, KR1.out, by have := KR1.out; have := HI.out; first | (congr 1; omega), XK, by rw [HN.out]; exact X0, X1, X2⟩
        case measure => have := KR1.out; have := HI.out; simp [intOf]; omega
    · obtain rfl : k = r := by omega
      have i0 : i = 0 := by omega
      subst i0
      have AX : Hid _ := fun W => AD.out (D k) 0 W DK.out (by decide)
      have EL : Hid ((D k).length = 16) := DK.out.1
      have OL : Hid ((A.addK (D k) (kf fl 0)).length = 16) := (AO.out (D k) 0 DK.out).1
      obtain ⟨ax, hax⟩ : ∃ ax, ax = A.addK (D k) (kf fl 0) := ⟨_, rfl⟩
      rw [← hax] at AX OL
      have HAX : Hid (ax = A.addK (D k) (kf fl 0)) := hax
      obtain ⟨ej, hej⟩ : ∃ ej, ej = D k := ⟨_, rfl⟩
      rw [← hej] at AX EL X0
      clear hk hk1 DK hax hej hi HI
      have z0 : (((0 : Nat) : Nat) : Int) = 0 := rfl
      rw [z0] at AX ⊢
      clear z0
      go_wp2_with (first | refine wpList_load_mid rfl 26 (.tmp 2) rfl w.heap.size 0 rfl kc _ XK.out.all UK.out.1 UK.out.2 IK.out ?_ | refine wpList_load_mid rfl 57 (.tmp 3) rfl (w.heap.size + 1) 0 rfl (ej.map b8) _ X0.out.all u_a16 rfl (info_n info_a16 ej EL.out) ?_)
      refine Calls.mono (AX.out _) ?_
      rintro e w3 ⟨rfl, hb3⟩
      have ZK : Hid (Blk w3 w.heap.size kc) := XK.out.up hb3 XK.out.lt
      have Z0 : Hid (Blk w3 (w.heap.size + 1) (ej.map b8)) := X0.out.up hb3 X0.out.lt
      have Z1 : Hid (Blk w3 (w.heap.size + 1 + 1) (zB 16)) := X1.out.up hb3 X1.out.lt
      have Z2 : Hid (Below w.heap.size w w3) := X2.out.trans (hb3.mono X2.out.size)
      clear hb3 XK X0 X1 X2
      have XK : Hid (Blk w3 w.heap.size kc) := ZK
      have X0 : Hid (Blk w3 (w.heap.size + 1) (ej.map b8)) := Z0
      have X1 : Hid (Blk w3 (w.heap.size + 1 + 1) (zB 16)) := Z1
      have X2 : Hid (Below w.heap.size w w3) := Z2
      clear ZK Z0 Z1 Z2
      have T0 : Hid (w3.there (w.heap.size + 1 + 1) 0 (ax.map b8).length) := X1.out.there (by rw [List.length_map, OL.out, zB_length]; omega)
      go_wp2_with (refine wp_store_eq rfl 57 (.tmp 4) (.tmp 27) rfl (w.heap.size + 1 + 1) 0 (ax.map b8) rfl rfl T0.out (info_n info_a16 ax OL.out) (one_b8 _) ?_)
      intro w9 hw9
      go_wp2_with fail
      refine bodyPost_ret (v := aB ax) ?_ rfl ⟨by rw [HAX.out], ?_⟩
      · rw [hw9.out]
        exact results_cell (b := w.heap.size + 1 + 1) rfl rfl (World.rangeAt_setCells_same _ _ _ _ T0.out) u_a16 rfl (info_n info_a16 ax OL.out)
      · rw [hw9.out]
        exact below_setCells _ _ _ X2.out (by omega)
end Go.Proofs.Ytejabkmhpiabnaa
