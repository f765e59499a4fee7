/- The contract of sealringref's Cipher.Unwrapped. -/
import Derived.Test.YtejabkmhpiabnaaGrp50
import Derived.Test.YtejabkmhpiabnaaADec
namespace Go.Proofs.Ytejabkmhpiabnaa
open Go.RowKit
set_option linter.unusedSimpArgs false
attribute [local go_sem] YieldsP execOp
attribute [local simp] MP.eq_p
set_option maxRecDepth 20000 in
set_option maxHeartbeats 1000000 in
theorem runwrapped_bad (p : List Nat) (h : ¬ A.canU p.length) (zp : p.length ≤ 140737488351248) (kc : Nat) (w : World) :
    Calls Try.prog 12 #[.pointer (some ⟨kc, 0, none⟩), .string (sOf p)] w fun e w' => e = .returned (.tuple #[.string (sOf []), .int .i64 1]) ∧ Below w.heap.size w w' := by
  unfold A.canU at h
  have b0 : sOf ([] : List Nat) = ⟨#[]⟩ := rfl
  rw [b0]
  have sz : (sOf p).size = p.length := sOf_size p
  obtain ⟨L, hL⟩ : ∃ L, L = p.length := ⟨_, rfl⟩
  rw [← hL] at sz h zp
  obtain ⟨q, hq⟩ : ∃ q, q = L / 8 := ⟨_, rfl⟩
  obtain ⟨rm, hrm⟩ : ∃ rm, rm = L % 8 := ⟨_, rfl⟩
  have d1 : (L : Int).tdiv 8 = (q : Int) := by rw [Int.tdiv_eq_ediv_of_nonneg (by omega)]; omega
  have d2 : (L : Int) / 8 = (q : Int) := by omega
  have wq : IntKind.i64.wrap (q : Int) = (q : Int) := by rw [IntKind.wrap_i64]; omega
  have m1 : (L : Int).tmod 8 = (rm : Int) := by rw [Int.tmod_eq_emod_of_nonneg (by omega)]; omega
  have m2 : (L : Int) % 8 = (rm : Int) := by omega
  generalize sOf p = T at *
  have wq1 : IntKind.i64.wrap ((q : Int) - 1) = (q : Int) - 1 := by rw [IntKind.wrap_i64]; omega
  by_cases h0 : 0 < rm
  · have z0 : (0 : Int) < (rm : Int) := by omega
    clear h hL hq hrm h0
    go_enter Try.func12, Try.ntmps12
    go_wp2_with fail
    go_ret2
    exact ⟨rfl, Below.refl _ _⟩
  · have z0 : ¬ (0 : Int) < (rm : Int) := by omega
    by_cases h1 : (q : Int) - 1 < 2
    · clear h hL hq hrm h0
      go_enter Try.func12, Try.ntmps12
      go_wp2_with fail
      go_ret2
      exact ⟨rfl, Below.refl _ _⟩
    · have z2 : (8 : Int) < (q : Int) - 1 := by omega
      clear h hL hq hrm h0
      go_enter Try.func12, Try.ntmps12
      go_wp2_with fail
      go_ret2
      exact ⟨rfl, Below.refl _ _⟩
set_option maxRecDepth 20000 in
set_option maxHeartbeats 2000000 in
theorem runwrapped_fun (ws : List (List Nat)) (hw : A.okW ws) (r : Nat) (hl : ws.length = 4 * (r + 1)) (hz : r ≤ 20) (p : List Nat) (hp : ∀ x ∈ p, x < 256) (hc : A.canU p.length) (kc : Nat) (w : World) (hcp : Cph w kc ws) :
    Calls Try.prog 12 #[.pointer (some ⟨kc, 0, none⟩), .string (sOf p)] w fun e w' => e = .returned (.tuple #[.string (sOf ((A.unwrapS ws p).getD [])), .int .i64 (A.unE (A.unwrapS ws p))]) ∧ Below w.heap.size w w' := by
  have hcn := hc
  unfold A.canU at hcn
  obtain ⟨n, hn⟩ : ∃ n, n = p.length / 8 - 1 := ⟨_, rfl⟩
  have LN : p.length = 8 * (n + 1) := by omega
  obtain ⟨D, hD⟩ : ∃ D, D = A.decS ws := ⟨_, rfl⟩
  have BD : Hid (A.blkE D) := by rw [hD]; exact A.decE hw
  have ST0 := (A.canU.start hc hp).2
  rw [← hn] at ST0
  obtain ⟨S, hS⟩ : ∃ S : Nat → A.WS, S = A.wundo D n (6 * n) (p.take 8, A.eights (p.drop 8) n) := ⟨_, rfl⟩
  have S0 : Hid (S 0 = (p.take 8, A.eights (p.drop 8) n)) := by rw [hS]; exact rfl
  have SO : Hid (∀ t, (S t).ok n) := fun t => by rw [hS]; exact A.wundo_ok BD.out (by omega) _ ST0 t
  have SS : Hid (∀ t, S (t + 1) = A.wback D n (6 * n - (t + 1)) (S t)) := fun t => by rw [hS]; exact rfl
  obtain ⟨RES, hRES⟩ : ∃ RES, RES = A.unwrapS ws p := ⟨_, rfl⟩
  have UN : A.unwrS D p = S (6 * n) := by
    unfold A.unwrS
    rw [← hn, ← hS]
  have FS : Hid ((S (6 * n)).1 = A.a6 → RES = some (S (6 * n)).2.flatten) := fun h => by
    rw [hRES]
    unfold A.unwrapS A.unwrapE
    rw [← hD, UN, if_pos h]
  have FN : Hid (¬ (S (6 * n)).1 = A.a6 → RES = none) := fun h => by
    rw [hRES]
    unfold A.unwrapS A.unwrapE
    rw [← hD, UN, if_neg h]
  rw [← hRES]
  obtain ⟨rx, hrx⟩ : ∃ rx, rx = sOf (RES.getD []) := ⟨_, rfl⟩
  have RX : Hid (rx = sOf (RES.getD [])) := hrx
  obtain ⟨rz, hrz⟩ : ∃ rz, rz = A.unE RES := ⟨_, rfl⟩
  have RZ : Hid (rz = A.unE RES) := hrz
  rw [← hrx, ← hrz]
  have DEF : Hid (∀ b W, A.ok 16 b → Below w.heap.size w W → Calls Try.prog 34 #[.pointer (some ⟨kc, 0, none⟩), aB b] W fun e w' => e = .returned (aB (D b)) ∧ Below W.heap.size W w') := fun b W hb hW => by
    rw [hD]
    exact rdecrypt_fun ws hw r hl hz b hb kc W (hcp.up hW)
  have sz : (sOf p).size = 8 * (n + 1) := by rw [sOf_size]; exact LN
  have n2 : 2 ≤ n := by omega
  have n8 : n ≤ 8 := by omega
  obtain ⟨n1, hn1⟩ : ∃ n1, n1 = n + 1 := ⟨_, rfl⟩
  have HN1 : Hid (n1 = n + 1) := hn1
  obtain ⟨N8, hN8⟩ : ∃ N8, N8 = 8 * (n + 1) := ⟨_, rfl⟩
  have HN8 : Hid (N8 = 8 * (n + 1)) := hN8
  have d1 : (N8 : Int).tdiv 8 = (n1 : Int) := by rw [Int.tdiv_eq_ediv_of_nonneg (by omega)]; omega
  have d2 : (N8 : Int) / 8 = (n1 : Int) := by omega
  have wn0 : IntKind.i64.wrap (n1 : Int) = (n1 : Int) := by rw [IntKind.wrap_i64]; omega
  have wn : IntKind.i64.wrap ((n1 : Int) - 1) = (n : Int) := by rw [IntKind.wrap_i64]; omega
  have m1 : (N8 : Int).tmod 8 = 0 := by rw [Int.tmod_eq_emod_of_nonneg (by omega)]; omega
  have m2 : (N8 : Int) % 8 = 0 := by omega
  have z1 : ¬ (n : Int) < 2 := by omega
  have z2 : ¬ (8 : Int) < (n : Int) := by omega
  have wn1 : IntKind.i64.wrap ((n : Int) + 1) = (n1 : Int) := by rw [IntKind.wrap_i64]; omega
  have F8 : Hid ((sOf p).extract 0 8 = sOf (p.take 8)) := sOf_front p 8
  have l8 : (8 : Int) ≤ (N8 : Int) := by omega
  have l8' : 8 ≤ N8 := by omega
  have P8 : Hid (A.ok 8 (p.take 8)) := ST0.1
  have EI : Hid (∀ W, Calls Try.prog 31 #[.string ((sOf p).extract 0 8)] W fun e w' => e = .returned (aB (p.take 8)) ∧ Below W.heap.size W w') := fun W => by
    rw [F8.out]
    exact reight_fun (p.take 8) P8.out.2 P8.out.1 W
  have MID : Hid (∀ t, t < n → (sOf p).extract (8 * t + 8) (8 * t + 8 + 8) = sOf ((A.eights (p.drop 8) n).getD t [])) := fun t ht => by rw [sOf_mid, A.eights_at _ ht, List.drop_drop, Nat.add_comm 8]
  obtain ⟨R, hR⟩ : ∃ R, R = A.eights (p.drop 8) n := ⟨_, rfl⟩
  have RL : Hid (R.length = n) := by rw [hR]; exact A.eights_length _ n
  rw [← hR] at S0 MID
  rw [← hN8] at sz
  have NB : Hid (2 ≤ n ∧ n ≤ 8) := ⟨n2, n8⟩
  obtain ⟨p8, hp8⟩ : ∃ p8, p8 = p.take 8 := ⟨_, rfl⟩
  rw [← hp8] at S0 P8 EI
  generalize sOf p = T at *
  clear hcn hn hn1 LN hD hS hR hN8 n2 n8 hp hc hcp hw hl hz hRES UN ST0 hrx hrz hp8 F8
  go_enter Try.func12, Try.ntmps12
  go_wp2_with fail
  refine Calls.mono (EI.out w) ?_
  rintro e w0 ⟨rfl, hb0⟩
  obtain ⟨y0, y1⟩ := al1 w0 #[Value.int IntKind.u8 0, Value.int IntKind.u8 0, Value.int IntKind.u8 0, Value.int IntKind.u8 0, Value.int IntKind.u8 0, Value.int IntKind.u8 0, Value.int IntKind.u8 0, Value.int IntKind.u8 0] 50
  have A0 : Hid (Blk (w0.alloc (.cells #[Value.int IntKind.u8 0, Value.int IntKind.u8 0, Value.int IntKind.u8 0, Value.int IntKind.u8 0, Value.int IntKind.u8 0, Value.int IntKind.u8 0, Value.int IntKind.u8 0, Value.int IntKind.u8 0] 50)) w0.heap.size (zB 8)) := y0
  have A1 : Hid (Below w.heap.size w (w0.alloc (.cells #[Value.int IntKind.u8 0, Value.int IntKind.u8 0, Value.int IntKind.u8 0, Value.int IntKind.u8 0, Value.int IntKind.u8 0, Value.int IntKind.u8 0, Value.int IntKind.u8 0, Value.int IntKind.u8 0] 50))) := hb0.trans (y1.mono hb0.size)
  have TA : Hid ((w0.alloc (.cells #[Value.int IntKind.u8 0, Value.int IntKind.u8 0, Value.int IntKind.u8 0, Value.int IntKind.u8 0, Value.int IntKind.u8 0, Value.int IntKind.u8 0, Value.int IntKind.u8 0, Value.int IntKind.u8 0] 50)).there w0.heap.size 0 (p8.map b8).length) := A0.out.there (by rw [List.length_map, zB_length, P8.out.1]; decide)
  have KA0 : Hid (w.heap.size ≤ w0.heap.size) := hb0.size
  clear hb0 y0 y1 EI
  go_wp2_with (first | simp only [zero_a8] | refine wp_store_eq rfl 50 (.tmp 7) (.tmp 34) rfl w0.heap.size 0 (p8.map b8) rfl rfl TA.out (info_n info_a8 p8 P8.out.1) (one_b8 _) ?_)
  intro w1 hw1
  obtain ⟨ka, hka⟩ : ∃ ka, ka = w0.heap.size := ⟨_, rfl⟩
  rw [← hka] at A0 hw1 KA0 ⊢
  have B0 : Hid (Blk w1 ka (p8.map b8)) := by rw [hw1.out]; exact A0.out.put (by rw [List.length_map, zB_length, P8.out.1])
  have B1 : Hid (Below w.heap.size w w1) := by rw [hw1.out]; exact below_setCells _ _ _ A1.out KA0.out
  clear hw1 A0 A1 TA hka
  go_wp2_with (refine wp_mkS rfl (.tmp 36) (.tmp 36) rfl n1 (n1 : Int) rfl rfl rfl (by have h1 := NB.out; have h2 := HN1.out; omega) ?_)
  intro w2 k2 hb2
  obtain ⟨kr, hkr⟩ : ∃ kr, kr = w1.heap.size := ⟨_, rfl⟩
  rw [← hkr] at k2 ⊢
  have C0 : Hid (Blk w2 ka (p8.map b8)) := B0.out.up hb2 B0.out.lt
  have C1 : Hid (Below w.heap.size w w2) := B1.out.trans (hb2.mono B1.out.size)
  have CR : Hid (Blk w2 kr (rowT R 0)) := by rw [rowT_zero, RL.out, ← HN1.out]; exact k2
  have KR : Hid (w.heap.size ≤ ka ∧ ka < kr) := ⟨KA0.out, by rw [hkr]; exact B0.out.lt⟩
  clear k2 hb2 B0 B1 hkr d1 d2 m1 m2 z1 z2 wn1 wn wn0 l8 l8' KA0
  go_wp2_with fail
  go_loopw [9] (fun i wr => ∃ t : Nat, t ≤ n ∧ i = .int .i64 ((t + 1 : Nat) : Int) ∧ Hid (Blk wr ka (p8.map b8)) ∧ Hid (Blk wr kr (rowT R t)) ∧ Hid (Below w.heap.size w wr)) (fun i _ => n + 1 - (intOf i).toNat)
  case atStart => exact ⟨0, by omega, rfl, C0, CR, C1⟩
  case round =>
    clear C0 CR C1
    obtain ⟨t, ht, rfl, C0, CR, C1⟩ := hrel
    have NB' := NB.out
    by_cases ht1 : t < n
    · obtain ⟨i, hi⟩ : ∃ i, i = t + 1 := ⟨_, rfl⟩
      have HI : Hid (i = t + 1) := hi
      rw [← hi]
      obtain ⟨hi8, hh8⟩ : ∃ hi8, hi8 = 8 * t + 8 + 8 := ⟨_, rfl⟩
      obtain ⟨lo8, hl8⟩ : ∃ lo8, lo8 = 8 * t + 8 := ⟨_, rfl⟩
      have i1 : (i : Int) ≤ (n : Int) := by omega
      have i0 : (0 : Int) ≤ (i : Int) := by omega
      have iN : (i : Int) < (n1 : Int) := by have := HN1.out; omega
      have iN3 : i < n1 := by have := HN1.out; omega
      have w8 : IntKind.i64.wrap (8 * (i : Int)) = (lo8 : Int) := by rw [IntKind.wrap_i64]; omega
      have w9 : IntKind.i64.wrap ((lo8 : Int) + 8) = (hi8 : Int) := by rw [IntKind.wrap_i64]; omega
      have wi : IntKind.i64.wrap ((i : Int) + 1) = (i : Int) + 1 := by rw [IntKind.wrap_i64]; omega
      have h8' := HN8.out
      have l1 : (lo8 : Int) ≤ (hi8 : Int) := by omega
      have l2 : (hi8 : Int) ≤ (N8 : Int) := by omega
      have l3 : lo8 ≤ hi8 := by omega
      have l4 : hi8 ≤ N8 := by omega
      have ME : Hid (tS (R.getD t []) = .string (T.extract lo8 hi8)) := by rw [hl8, hh8, MID.out t ht1]; exact rfl
      have c1 : ∃ v, wr.cell? ⟨kr, i, none⟩ = some v := ⟨_, CR.out.cell i ((rowT R t)[i]'(by rw [rowT_length R (by rw [RL.out]; exact ht), RL.out]; have := HN1.out; omega)) (List.getElem?_eq_getElem _)⟩
      obtain ⟨ov, c1⟩ := c1
      have f1 := CR.out.fz i
      have V0 : Hid _ := C0.out.apart1 (k' := kr) (o := i) (v := tS (R.getD t [])) (by have := KR.out; omega)
      have VR : Hid (Blk (wr.setCell ⟨kr, i, none⟩ (tS (R.getD t []))) kr (rowT R (t + 1))) := by
        rw [← rowT_set R (by rw [RL.out]; exact ht1), hi]
        exact CR.out.set _ _ (by rw [rowT_length R (by rw [RL.out]; exact ht), RL.out]; omega)
      have V1 : Hid _ := C1.out.setCell (p := ⟨kr, i, none⟩) (by have := KR.out; show w.heap.size ≤ kr; omega) (tS (R.getD t []))
      have T1 : Hid (t < n) := ht1
      rw [ME.out] at V0 VR V1
      clear hi hh8 hl8 ht ht1 C0 CR C1 NB' h8' ME
      go_wp2_with fail
      go_roundw
      case rel => exact ⟨t + 1, T1.out, by rw [← HI.out]; first | rfl | go_num, V0, VR, V1⟩
      case measure => have h1 := HI.out; have h2 := T1.out; simp [intOf]; omega
    · obtain rfl : t = n := by omega
      have e1 : ((t + 1 : Nat) : Int) = (n1 : Int) := by have := HN1.out; omega
      rw [e1]
      have nn1 : ¬ (n1 : Int) ≤ (t : Int) := by omega
      have CR : Hid (Blk wr kr (rowS R)) := by rw [← rowT_all, RL.out]; exact CR
      clear ht ht1 NB' MID e1
      have SA0 : Hid (Blk wr ka ((S (t * 0)).1.map b8)) := by rw [Nat.mul_zero, S0.out]; exact C0
      have SR0 : Hid (Blk wr kr (rowS (S (t * 0)).2)) := by rw [Nat.mul_zero, S0.out]; exact CR
      clear C0 CR sz HN8 RL S0
      go_wp2_with fail
      go_loopw [10] (fun x wx => ∃ j : Nat, j ≤ 6 ∧ x = .int .i64 (5 - (j : Int)) ∧ Hid (Blk wx ka ((S (t * j)).1.map b8)) ∧ Hid (Blk wx kr (rowS (S (t * j)).2)) ∧ Hid (Below w.heap.size w wx)) (fun x _ => (intOf x + 1).toNat)
      case atStart => exact ⟨0, by omega, rfl, SA0, SR0, C1⟩
      case round =>
        clear SA0 SR0 C1
        obtain ⟨j, hj, rfl, SA, SR, C1⟩ := hrel
        by_cases hj1 : j < 6
        · obtain ⟨jd, hjd⟩ : ∃ jd, jd = 5 - j := ⟨_, rfl⟩
          have ej : (5 : Int) - (j : Int) = (jd : Int) := by omega
          rw [ej]
          have j6 : (0 : Int) ≤ (jd : Int) := by omega
          have wj : IntKind.i64.wrap ((jd : Int) - 1) = (jd : Int) - 1 := by rw [IntKind.wrap_i64]; omega
          have J6 : Hid (jd + j = 5) := by show _ = _; omega
          clear hj hj1 hjd ej
          go_wp2_with fail
          go_loopw [11] (fun x wx => ∃ i : Nat, i ≤ t ∧ x = .int .i64 ((t : Int) - (i : Int)) ∧ Hid (Blk wx ka ((S (t * j + i)).1.map b8)) ∧ Hid (Blk wx kr (rowS (S (t * j + i)).2)) ∧ Hid (Below w.heap.size w wx)) (fun x _ => (intOf x).toNat)
          case atStart => exact ⟨0, by omega, by simp, SA, SR, C1⟩
          case round =>
            clear SA SR C1
            obtain ⟨i, hi, rfl, SA, SR, C1⟩ := hrel
            have NB' := NB.out
            have J6' := J6.out
            obtain ⟨i1, hi1e⟩ : ∃ i1, i1 = t - i := ⟨_, rfl⟩
            have ei : (t : Int) - (i : Int) = (i1 : Int) := by omega
            rw [ei]
            have HI : Hid (i1 + i = t) := by show _ = _; omega
            by_cases hi1 : i < t
            · have hm : t * j ≤ 8 * 5 := Nat.mul_le_mul NB'.2 (by omega)
              have hmj : t * jd ≤ 8 * 5 := Nat.mul_le_mul NB'.2 (by omega)
              have h5 : t * jd + t * j = 5 * t := by rw [← Nat.mul_add, J6.out, Nat.mul_comm]
              obtain ⟨u, hu⟩ : ∃ u, u = t * j + i := ⟨_, rfl⟩
              obtain ⟨v, hv⟩ : ∃ v, v = 6 * t - (u + 1) := ⟨_, rfl⟩
              obtain ⟨i2, hi2⟩ : ∃ i2, i2 = i1 - 1 := ⟨_, rfl⟩
              have v1 : v = t * jd + i2 := by omega
              have vm : v % t = i2 := by rw [v1, Nat.mul_add_mod, Nat.mod_eq_of_lt (by omega)]
              have SU : Hid (t * j + (i + 1) = u + 1) := by rw [hu]; exact (Nat.add_assoc _ _ _).symm
              rw [← hu] at SA SR
              have hs := SO.out u
              have ST := SS.out u
              rw [← hv] at ST
              obtain ⟨a, ha⟩ : ∃ a, a = (S u).1 := ⟨_, rfl⟩
              obtain ⟨rs, hrs⟩ : ∃ rs, rs = (S u).2 := ⟨_, rfl⟩
              obtain ⟨ri, hri⟩ : ∃ ri, ri = rs.getD i2 [] := ⟨_, rfl⟩
              have AO : Hid (A.ok 8 a) := by rw [ha]; exact hs.1
              have RE : Hid (A.okE t rs) := by rw [hrs]; exact hs.2
              have RI : Hid (A.ok 8 ri) := by rw [hri]; exact RE.out.at (by omega)
              have CO : Hid _ := rcounted_fun a AO.out (v + 1) (by omega)
              have X8 : Hid (A.ok 8 (A.xor8 a (A.be8 (v + 1)))) := A.xor8_ok AO.out (A.be8_ok _)
              obtain ⟨ax, hax⟩ : ∃ ax, ax = A.xor8 a (A.be8 (v + 1)) := ⟨_, rfl⟩
              rw [← hax] at CO X8
              have AR : Hid (A.ok 16 (ax ++ ri)) := A.ok_two X8.out RI.out
              obtain ⟨b, hb⟩ : ∃ b, b = D (ax ++ ri) := ⟨_, rfl⟩
              have BO : Hid (A.ok 16 b) := by rw [hb]; exact BD.out _ AR.out
              have NX : Hid (S (u + 1) = (b.take 8, rs.set i2 (b.drop 8))) := by
                rw [ST]
                unfold A.wback
                rw [vm, ← ha, ← hrs, ← hri, ← hax, ← hb]
                exact rfl
              have EN : Hid _ := DEF.out (ax ++ ri)
              rw [← hb] at EN
              have SX : Hid (∀ W, Calls Try.prog 29 #[.string (sOf ax ++ sOf ri)] W fun e w' => e = .returned (aB (ax ++ ri)) ∧ Below W.heap.size W w') := fun W => by
                rw [sOf_append]
                exact rsixteen_fun (ax ++ ri) AR.out.2 AR.out.1 W
              have EI : Hid _ := reight_fun (b.take 8) (A.ok_front BO.out).2 (A.ok_front BO.out).1
              have B8 : Hid (A.ok 8 (b.take 8)) := A.ok_front BO.out
              rw [← ha] at SA
              rw [← hrs] at SR
              have e21 : i1 = i2 + 1 := by omega
              have ri1 : (rowS rs)[i1]? = some (tS ri) := by rw [e21, hri]; exact rowS_at rs (by rw [RE.out.1]; omega)
              have RS : Hid (∀ W, Blk W kr (rowS rs) → Blk (W.setCell ⟨kr, i1, none⟩ (tS (b.drop 8))) kr (rowS (rs.set i2 (b.drop 8)))) := fun W h => by
                rw [← rowS_set, e21]
                exact h.set _ _ (by rw [rowS_length, RE.out.1]; omega)
              have i1n : (1 : Int) ≤ (i1 : Int) := by omega
              have i0 : (0 : Int) ≤ (i1 : Int) := by omega
              have iN : (i1 : Int) < (n1 : Int) := by have := HN1.out; omega
              have iN3 : i1 < n1 := by have := HN1.out; omega
              have wi : IntKind.i64.wrap ((i1 : Int) - 1) = (i1 : Int) - 1 := by rw [IntKind.wrap_i64]; omega
              obtain ⟨tj, htj⟩ : ∃ tj, tj = t * jd := ⟨_, rfl⟩
              have w1_ : IntKind.i64.wrap ((t : Int) * (jd : Int)) = (tj : Int) := by rw [htj, IntKind.wrap_i64, ← Int.natCast_mul]; omega
              have w2_ : IntKind.i64.wrap ((tj : Int) + (i1 : Int)) = ((v + 1 : Nat) : Int) := by rw [IntKind.wrap_i64]; omega
              have sa : (sOf ax).size = 8 := by rw [sOf_size]; exact X8.out.1
              have sr : (sOf ri).size = 8 := by rw [sOf_size]; exact RI.out.1
              have hlim : ¬ 9223372036854775807 < 8 + 8 := by decide
              have HI1 : Hid (i < t) := hi1
              clear hu hv hi2 v1 vm h5 hmj hs ST ha hrs hri hb hax hi hi1 hi1e htj hm NB' J6' e21 ei
              go_wp2_with (refine wpList_load_mid rfl 50 (.tmp 7) rfl ka 0 rfl (a.map b8) _ SA.out.all u_a8 rfl (info_n info_a8 a AO.out.1) ?_)
              refine Calls.mono (CO.out _) ?_
              rintro e w4 ⟨rfl, hb4⟩
              have VA : Hid (Blk w4 ka (a.map b8)) := SA.out.up hb4 SA.out.lt
              have VR : Hid (Blk w4 kr (rowS rs)) := SR.out.up hb4 SR.out.lt
              have VB : Hid (Below w.heap.size w w4) := C1.out.trans (hb4.mono C1.out.size)
              have T4 : Hid (w4.there ka 0 (ax.map b8).length) := VA.out.there (by rw [List.length_map, List.length_map, X8.out.1, AO.out.1]; omega)
              clear hb4 SA SR C1 CO
              go_wp2_with (refine wp_store_eq rfl 50 (.tmp 7) (.tmp 68) rfl ka 0 (ax.map b8) rfl rfl T4.out (info_n info_a8 ax X8.out.1) (one_b8 _) ?_)
              intro w5 hw5
              have SA : Hid (Blk w5 ka (ax.map b8)) := by rw [hw5.out]; exact VA.out.put (by rw [List.length_map, List.length_map, X8.out.1, AO.out.1])
              have SR : Hid (Blk w5 kr (rowS rs)) := by rw [hw5.out]; exact VR.out.apart (by have h1 := KR.out; omega)
              have C1 : Hid (Below w.heap.size w w5) := by rw [hw5.out]; exact below_setCells _ _ _ VB.out KR.out.1
              clear hw5 T4 VA VR VB
              go_wp2_with fail
              try simp only [Act.put, List.setIfInBounds_toArray, List.set_cons_succ, List.set_cons_zero]
              refine wp_region_alloc1 10 (.cells #[Value.int IntKind.u8 0, Value.int IntKind.u8 0, Value.int IntKind.u8 0, Value.int IntKind.u8 0, Value.int IntKind.u8 0, Value.int IntKind.u8 0, Value.int IntKind.u8 0, Value.int IntKind.u8 0, Value.int IntKind.u8 0, Value.int IntKind.u8 0, Value.int IntKind.u8 0, Value.int IntKind.u8 0, Value.int IntKind.u8 0, Value.int IntKind.u8 0, Value.int IntKind.u8 0, Value.int IntKind.u8 0] 57) (by kernel_rfl) (by kernel_rfl) (by kernel_rfl) (by kernel_rfl) (by decide) (fun _ _ d _ _ h => by cases d <;> exact h) rfl rfl (fun _ _ => by kernel_rfl) ?_
              apply Exists.intro
              refine ⟨fun U hU f hf hcl => ?_, fun kd w6 hb6 hk6 hc6 => ?_⟩
              · have RA : Hid (∀ m, By (f m) (.slice (some ⟨ka, 0, none⟩) 8 8) ax) := fun m => By.of_blk (SA.out.up (hf m).out SA.out.lt) X8.out.1
                have RC : ∀ m, (f m).cell? ⟨kr, i1, none⟩ = some (.string (sOf ri)) := fun m => (SR.out.up (hf m).out SR.out.lt).cell i1 _ ri1
                have SF : Hid (∀ m, _) := fun m => SX.out (f m)
                have EF : Hid (∀ m, _) := fun m => EN.out (f m) AR.out (C1.out.trans ((hf m).out.mono C1.out.size))
                clear hf
                simp only [List.take_succ_cons, List.take_zero]
                repeat (first | (refine quiet_all8 rfl (.tmp 7) rfl ka rfl ?_; simp only [Act.put, List.setIfInBounds_toArray, List.set_cons_succ, List.set_cons_zero]) | (refine quiet_convT rfl (.tmp 70) rfl _ ax (sOf ax) rfl rfl (fun W hW => by obtain ⟨m, rfl⟩ := hW; exact RA.out m) ?_; simp only [Act.put, List.setIfInBounds_toArray, List.set_cons_succ, List.set_cons_zero]) | go_big_quiet_step (first | (go_at_call 29; exact (SF.out _).mono fun e w'' ⟨he, hb⟩ => ⟨he, hcl.out _ _ hb⟩) | (go_at_call 34; exact (EF.out _).mono fun e w'' ⟨he, hb⟩ => ⟨he, hcl.out _ _ hb⟩)))
                exact wpQuiet_nil rfl
              simp only [List.drop_succ_cons, List.drop_zero]
              have K6 : Hid (Blk w6 kd (zB 16)) := Blk.of_heap hc6.out
              have UA : Hid (Blk w6 ka (ax.map b8)) := SA.out.up hb6.out SA.out.lt
              have UR : Hid (Blk w6 kr (rowS rs)) := SR.out.up hb6.out SR.out.lt
              have UB : Hid (Below w.heap.size w w6) := C1.out.trans (hb6.out.mono C1.out.size)
              have KD : Hid (kr < kd) := Nat.lt_of_lt_of_le SR.out.lt hk6
              have T6 : Hid (w6.there kd 0 (b.map b8).length) := K6.out.there (by rw [List.length_map, BO.out.1, zB_length]; omega)
              clear hb6 hk6 hc6 SA SR C1 EN SX
              go_wp2_with (refine wp_store_eq rfl 57 (.tmp 12) (.tmp 78) rfl kd 0 (b.map b8) rfl rfl T6.out (info_n info_a16 b BO.out.1) (one_b8 _) ?_)
              intro w7 hw7
              have K7 : Hid (Blk w7 kd (b.map b8)) := by rw [hw7.out]; exact K6.out.put (by rw [List.length_map, BO.out.1, zB_length])
              have VA : Hid (Blk w7 ka (ax.map b8)) := by rw [hw7.out]; exact UA.out.apart (by have h1 := KR.out; have h2 := KD.out; omega)
              have VR : Hid (Blk w7 kr (rowS rs)) := by rw [hw7.out]; exact UR.out.apart (by have h2 := KD.out; omega)
              have VB : Hid (Below w.heap.size w w7) := by rw [hw7.out]; exact below_setCells _ _ _ UB.out (by have h1 := KR.out; have h2 := KD.out; omega)
              have F7 : Hid (By w7 (.slice (some ⟨kd, 0, none⟩) 8 16) (b.take 8)) := By.front8 K7.out BO.out.1
              have EI7 : Hid _ := EI.out w7
              clear hw7 T6 K6 UA UR UB EI
              go_wp2_with (first | refine wp_front8 rfl (.tmp 12) _ rfl kd rfl rfl ?_ | refine wp_conv rfl (.tmp 79) rfl _ (b.take 8) rfl F7.out ?_)
              refine Calls.mono EI7.out ?_
              rintro e w8 ⟨rfl, hb8⟩
              have K9 : Hid (Blk w8 kd (b.map b8)) := K7.out.up hb8 K7.out.lt
              have UA : Hid (Blk w8 ka (ax.map b8)) := VA.out.up hb8 VA.out.lt
              have UR : Hid (Blk w8 kr (rowS rs)) := VR.out.up hb8 VR.out.lt
              have UB : Hid (Below w.heap.size w w8) := VB.out.trans (hb8.mono VB.out.size)
              have T9 : Hid (w8.there ka 0 ((b.take 8).map b8).length) := UA.out.there (by rw [List.length_map, List.length_map, B8.out.1, X8.out.1]; omega)
              clear hb8 K7 VA VR VB F7 EI7
              go_wp2_with (refine wp_store_eq rfl 50 (.tmp 7) (.tmp 81) rfl ka 0 ((b.take 8).map b8) rfl rfl T9.out (info_n info_a8 (b.take 8) B8.out.1) (one_b8 _) ?_)
              intro w10 hw10
              have K10 : Hid (Blk w10 kd (b.map b8)) := by rw [hw10.out]; exact K9.out.apart (by have h1 := KR.out; have h2 := KD.out; omega)
              have VA : Hid (Blk w10 ka ((b.take 8).map b8)) := by rw [hw10.out, ← List.map_take]; exact UA.out.put (us := (b.take 8).map b8) ((List.length_map ..).trans (B8.out.1.trans (X8.out.1.symm.trans (List.length_map ..).symm)))
              have VR : Hid (Blk w10 kr (rowS rs)) := by rw [hw10.out]; exact UR.out.apart (by have h1 := KR.out; omega)
              have VB : Hid (Below w.heap.size w w10) := by rw [hw10.out]; exact below_setCells _ _ _ UB.out KR.out.1
              have F10 : Hid (By w10 (.slice (some ⟨kd, 8, none⟩) 8 8) (b.drop 8)) := By.back8 K10.out BO.out.1
              have c10 := VR.out.cell i1 _ ri1
              have f10 := VR.out.fz i1
              have ZA : Hid _ := VA.out.apart1 (k' := kr) (o := i1) (v := tS (b.drop 8)) (by have h1 := KR.out; omega)
              have ZR : Hid _ := RS.out w10 VR.out
              have ZB : Hid _ := VB.out.setCell (p := ⟨kr, i1, none⟩) (by have h1 := KR.out; show w.heap.size ≤ kr; omega) (tS (b.drop 8))
              clear hw10 T9 K9 VA VR VB K10 UA UR UB RS ri1
              go_wp2_with (first | refine wp_back8 rfl (.tmp 12) _ rfl kd rfl rfl ?_ | refine wp_conv rfl (.tmp 84) rfl _ (b.drop 8) rfl F10.out ?_)
              go_roundw
              case rel => exact ⟨i + 1, HI1.out, by rw [show (t : Int) - ((i + 1 : Nat) : Int) = (i1 : Int) - 1 by have := HI.out; omega], by rw [SU.out, NX.out]; exact ZA, by rw [SU.out, NX.out]; exact ZR, ZB⟩
              case measure => have h1 := HI.out; have h2 := HI1.out; simp [intOf]; omega
            · obtain rfl : i = t := by omega
              have nn2 : ¬ (1 : Int) ≤ (i1 : Int) := by omega
              have SU : Hid (i * j + i = i * (j + 1)) := (Nat.mul_succ i j).symm
              rw [SU.out] at SA SR
              clear hi hi1 hi1e NB' J6' ei
              go_wp2_with fail
              go_roundw
              case rel => exact ⟨j + 1, by have := J6.out; omega, by rw [show (5 : Int) - ((j + 1 : Nat) : Int) = (jd : Int) - 1 by have := J6.out; omega], SA, SR, C1⟩
              case measure => first | (simp [intOf]; done) | (have := J6.out; simp [intOf]; omega)
        · obtain rfl : j = 6 := by omega
          obtain ⟨m1_, hm1⟩ : ∃ m1_ : Int, m1_ = 5 - ((6 : Nat) : Int) := ⟨_, rfl⟩
          rw [← hm1]
          have n6 : ¬ (0 : Int) ≤ m1_ := by omega
          rw [show t * 6 = 6 * t from Nat.mul_comm _ _] at SA SR
          have hs := SO.out (6 * t)
          obtain ⟨a, ha⟩ : ∃ a, a = (S (6 * t)).1 := ⟨_, rfl⟩
          obtain ⟨rs, hrs⟩ : ∃ rs, rs = (S (6 * t)).2 := ⟨_, rfl⟩
          rw [← ha] at SA
          rw [← hrs] at SR
          have AO : Hid (A.ok 8 a) := by rw [ha]; exact hs.1
          have RE : Hid (A.okE t rs) := by rw [hrs]; exact hs.2
          have FINs : Hid (a = A.a6 → RES = some rs.flatten) := by rw [ha, hrs]; exact FS.out
          have FINn : Hid (¬ a = A.a6 → RES = none) := by rw [ha]; exact FN.out
          clear FS FN hm1 hj hj1
          clear ha hrs hs SO SS DEF
          have O0 : Hid ((⟨#[]⟩ : ByteArray) = sOf ((rs.take 0).flatten)) := rfl
          go_wp2_with (refine wp_cutT rfl (.tmp 87) _ rfl kr t n1 HN1.out rfl rfl (by have := NB.out; omega) ?_)
          have EO : Value.string ⟨#[]⟩ = .string (sOf ((rs.take 0).flatten)) := by rw [← O0.out]
          go_loopw [13, 90] (fun o i wx => ∃ q : Nat, q ≤ t ∧ i = .int .i64 (q : Int) ∧ o = .string (sOf ((rs.take q).flatten)) ∧ Hid (Blk wx ka (a.map b8)) ∧ Hid (Blk wx kr (rowS rs)) ∧ Hid (Below w.heap.size w wx)) (fun _ i _ => t - (intOf i).toNat)
          case atStart => exact ⟨0, by omega, rfl, rfl, SA, SR, C1⟩
          case round =>
            clear SR C1 O0 SA EO
            obtain ⟨q, hq, rfl, rfl, SA, SR, C1⟩ := hrel
            by_cases hq1 : q < t
            · have q1 : (q : Int) < (t : Int) := by omega
              have q0 : (0 : Int) ≤ (q : Int) := by omega
              have wq : IntKind.i64.wrap ((q : Int) + 1) = (q : Int) + 1 := by have := NB.out; rw [IntKind.wrap_i64]; omega
              have c1 : wr.cell? ⟨kr, 1 + q, none⟩ = some (.string (sOf (rs.getD q []))) := by rw [Nat.add_comm]; exact SR.out.cell (q + 1) _ (rowS_at rs (by rw [RE.out.1]; exact hq1))
              have ro := RE.out.at hq1
              have fl : ((rs.take q).flatten).length = 8 * q := by rw [(RE.out.front (Nat.le_of_lt hq1)).flen]
              have sa : (sOf ((rs.take q).flatten)).size = 8 * q := by rw [sOf_size]; exact fl
              have sb : (sOf (rs.getD q [])).size = 8 := by rw [sOf_size]; exact ro.1
              have OA : Hid (sOf ((rs.take q).flatten) ++ sOf (rs.getD q []) = sOf ((rs.take (q + 1)).flatten)) := by rw [sOf_append, A.take_flat (by rw [RE.out.1]; exact hq1)]; exact rfl
              obtain ⟨ub, hub⟩ : ∃ ub, ub = sOf ((rs.take (q + 1)).flatten) := ⟨_, rfl⟩
              have UB : Hid (ub = sOf ((rs.take (q + 1)).flatten)) := hub
              rw [← hub] at OA
              obtain ⟨z8, hz8⟩ : ∃ z8, z8 = 8 * q := ⟨_, rfl⟩
              rw [← hz8] at sa
              have hlim : ¬ 9223372036854775807 < z8 + 8 := by have := NB.out; omega
              generalize sOf ((rs.take q).flatten) = ua at *
              have Q1 : Hid (q < t) := hq1
              clear hub ro fl hz8 hq hq1
              generalize sOf (rs.getD q []) = ur at *
              go_wp2_with fail
              rw [OA.out]
              go_roundw
              case rel => exact ⟨q + 1, Q1.out, by first | rfl | go_num, by rw [UB.out], SA, SR, C1⟩
              case measure => have := Q1.out; simp [intOf]; omega
            · obtain rfl : q = t := by omega
              have n2 : ¬ (q : Int) < (q : Int) := by omega
              have TF : Hid ((rs.take q).flatten = rs.flatten) := by rw [List.take_of_length_le (by rw [RE.out.1]; exact Nat.le_refl _)]; exact rfl
              rw [TF.out]
              have NE : Hid (∀ W, (binOp .neq 50 (aB a) (aB A.a6)).run Try.prog W = .ok (.bool (!decide (a = A.a6))) W) := fun W => neA_dec u_a8 a A.a6 AO.out.1 rfl W
              clear hq hq1
              by_cases h6 : a = A.a6
              · have ne := NE.out
                have dd : decide (a = A.a6) = true := decide_eq_true h6
                rw [dd] at ne
                have RV : Hid (RES = some rs.flatten) := FINs.out h6
                clear h6 NE dd
                go_wp2_with (first | refine wp_build_a6 rfl rfl ?_ | refine wpList_load_mid rfl 50 (.tmp 7) rfl ka 0 rfl (a.map b8) _ SA.out.all u_a8 rfl (info_n info_a8 a AO.out.1) ?_)
                go_ret2
                exact ⟨by rw [RX.out, RZ.out, RV.out]; rfl, C1.out⟩
              · have ne := NE.out
                have dd : decide (a = A.a6) = false := decide_eq_false h6
                rw [dd] at ne
                have RV : Hid (RES = none) := FINn.out h6
                clear h6 NE dd
                go_wp2_with (first | refine wp_build_a6 rfl rfl ?_ | refine wpList_load_mid rfl 50 (.tmp 7) rfl ka 0 rfl (a.map b8) _ SA.out.all u_a8 rfl (info_n info_a8 a AO.out.1) ?_)
                go_ret2
                exact ⟨by rw [RX.out, RZ.out, RV.out]; rfl, C1.out⟩
end Go.Proofs.Ytejabkmhpiabnaa
