/- The contract of wrap.Wrap, over any function of blocks that Encrypt is. -/
import Derived.Test.YtejabkmhpiabnaaGrp37
import Derived.Test.YtejabkmhpiabnaaWaS
import Derived.Test.YtejabkmhpiabnaaGrp39
import Derived.Test.YtejabkmhpiabnaaAeX
namespace Go.Proofs.Ytejabkmhpiabnaa
open Go.RowKit
set_option linter.unusedSimpArgs false
attribute [local go_sem] YieldsP execOp
attribute [local simp] MP.eq_p
set_option maxRecDepth 20000 in
set_option maxHeartbeats 1000000 in
theorem wwrap_bad (cs : List Value) (p : List Nat) (v : Value) (zp : p.length ≤ 140737488351248) (hc : ¬ A.canW p.length) (w : World) (hv : By w v p) :
    Calls Try.prog 9 #[.agg cs.toArray, v] w fun e w' => ∃ u, e = .returned (.tuple #[u, .int .i64 1]) ∧ By w' u [] ∧ Below w.heap.size w w' := by
  obtain ⟨va, vc, rfl⟩ := hv.len
  obtain ⟨x0, x1⟩ := Blk.al' w cs 26
  have X1 : Hid (Below w.heap.size w _) := x1
  obtain ⟨L, hL⟩ : ∃ L, L = p.length := ⟨_, rfl⟩
  rw [← hL] at hc ⊢
  have FT : Hid (∀ W, Calls Try.prog 20 #[.int .i64 (L : Int)] W fun e w' => e = .returned (.bool false) ∧ w' = W) := fun W => wfits_no _ (by
    rw [Int.tmod_eq_emod_of_nonneg (by omega)]
    intro h
    refine hc ?_
    unfold A.canW
    omega) W
  clear x0 x1 hv hc zp hL
  go_enter Try.func9, Try.ntmps9
  go_wp2_with fail
  refine Calls.mono (FT.out _) ?_
  rintro e w2 ⟨rfl, rfl⟩
  go_wp2_with fail
  go_ret2
  exact ⟨_, rfl, By.nil _, X1.out⟩
set_option maxRecDepth 20000 in
set_option maxHeartbeats 2000000 in
theorem wwrap_of (cs : List Value) (hcs : cs.length = 241) (E : List Nat → List Nat) (hE : A.blkE E) (hen : ∀ b W, A.ok 16 b → Calls Try.prog 24 #[.agg cs.toArray, aB b] W fun e w' => e = .returned (aB (E b)) ∧ Below W.heap.size W w')
    (p : List Nat) (v : Value) (hp : ∀ x ∈ p, x < 256) (hc : A.canW p.length) (w : World) (hv : By w v p) :
    Calls Try.prog 9 #[.agg cs.toArray, v] w fun e w' => ∃ u, e = .returned (.tuple #[u, .int .i64 0]) ∧ By w' u (A.wrapE E p) ∧ Below w.heap.size w w' := by
  have hcn := hc
  unfold A.canW at hcn
  obtain ⟨n, hn⟩ : ∃ n, n = p.length / 8 := ⟨_, rfl⟩
  have LN : p.length = 8 * n := by omega
  have BE : Hid (A.blkE E) := hE
  obtain ⟨S, hS⟩ : ∃ S : Nat → A.WS, S = A.wrun E n (A.a6, A.eights p n) := ⟨_, rfl⟩
  obtain ⟨a6, h6⟩ : ∃ a6, a6 = A.a6 := ⟨_, rfl⟩
  have S0 : Hid ((S 0).1 = a6 ∧ (S 0).2.flatten = p) := by
    rw [hS, h6]
    exact ⟨rfl, by show (A.eights p n).flatten = p; rw [A.eights_flat p n (by omega), List.take_of_length_le (by omega)]⟩
  have SO : Hid (∀ t, (S t).ok n) := fun t => by rw [hS]; exact A.wrun_ok BE.out (by omega) ⟨A.a6_ok, A.eights_ok ⟨by omega, hp⟩⟩ t
  have SS : Hid (∀ t, S (t + 1) = A.wstep E n t (S t)) := fun t => by rw [hS]; exact rfl
  have FIN : Hid (A.wrapE E p = (S (6 * n)).1 ++ (S (6 * n)).2.flatten) := by
    unfold A.wrapE
    rw [← hn, ← hS]
    exact rfl
  rw [FIN.out]
  have A6 : Hid (a6.length = 8) := by rw [h6]; exact rfl
  have MK : Hid (∀ W, Calls Try.prog 21 #[] W fun e w' => e = .returned (aB a6) ∧ Below W.heap.size W w') := fun W => by rw [h6]; exact wmarks_fun W
  have ENF : Hid (∀ b W, A.ok 16 b → Calls Try.prog 24 #[.agg cs.toArray, aB b] W fun e w' => e = .returned (aB (E b)) ∧ Below W.heap.size W w') := hen
  obtain ⟨va, vc, rfl⟩ := hv.len
  have BZ : Hid (∀ W, Below w.heap.size w W → By W (.slice va p.length vc) p) := fun W hW => hv.up hW (Nat.le_refl _)
  obtain ⟨N, hN⟩ : ∃ N, N = p.length := ⟨_, rfl⟩
  have FT : Hid (∀ W, Calls Try.prog 20 #[.int .i64 (N : Int)] W fun e w' => e = .returned (.bool true) ∧ w' = W) := fun W => by rw [hN]; exact wfits_yes _ hc W
  have CT : Hid (∀ W, By W (.slice va p.length vc) p → Calls Try.prog 22 #[.slice va p.length vc] W fun e w' => e = .returned (.slice (some ⟨W.heap.size, 0, none⟩) n n) ∧ Blk w' W.heap.size (p.map b8) ∧ Below W.heap.size W w') := fun W hW => wcut_fun p n LN (by omega) (by omega) _ W hW
  rw [← hN] at CT BZ ⊢
  have NB : Hid (2 ≤ n ∧ n ≤ 8) := by show _ ∧ _; omega
  obtain ⟨x0, x1⟩ := Blk.al' w cs 26
  have X0 : Hid (Blk _ w.heap.size cs) := x0
  have X1 : Hid (Below w.heap.size w _) := x1
  obtain ⟨dk, uk, rk⟩ := u_key
  have UK : Hid (Try.prog.underlying 26 = some dk ∧ dk.isRow = true) := ⟨uk, rk⟩
  have IK : Hid ((Try.prog.info? 26).map (·.size) = some cs.length) := by rw [hcs]; exact info_key
  clear x0 x1 hcn hn LN hE hS hen hv hN hc hp hcs uk rk h6
  go_enter Try.func9, Try.ntmps9
  go_wp2_with fail
  generalize w.alloc _ = w1 at *
  refine Calls.mono (FT.out _) ?_
  rintro e w1' ⟨rfl, rfl⟩
  clear FT
  go_wp2_with fail
  refine Calls.mono (MK.out _) ?_
  rintro e w2 ⟨rfl, hb2⟩
  have Y0 : Hid (Blk w2 w.heap.size cs) := X0.out.up hb2 X0.out.lt
  have Y1 : Hid (Below w.heap.size w w2) := X1.out.trans (hb2.mono X1.out.size)
  have CT2 : Hid _ := CT.out w2 (BZ.out w2 Y1.out)
  obtain ⟨kr, hkr⟩ : ∃ kr, kr = w2.heap.size := ⟨_, rfl⟩
  rw [← hkr] at CT2
  have KR0 : Hid (w.heap.size < kr) := by rw [hkr]; exact Y0.out.lt
  have HKR : Hid (kr = w2.heap.size) := hkr
  clear hb2 X0 X1 MK BZ CT hkr
  go_wp2_with fail
  refine Calls.mono CT2.out ?_
  rintro e w3 ⟨rfl, k3, hb3⟩
  rw [HKR.out] at hb3
  have Z0 : Hid (Blk w3 w.heap.size cs) := Y0.out.up hb3 Y0.out.lt
  have Z1 : Hid (Below w.heap.size w w3) := Y1.out.trans (hb3.mono Y1.out.size)
  have ZR : Hid (Blk w3 kr (p.map b8)) := k3
  obtain ⟨y0, y1⟩ := al1 w3 #[Value.int IntKind.u8 0, Value.int IntKind.u8 0, Value.int IntKind.u8 0, Value.int IntKind.u8 0, Value.int IntKind.u8 0, Value.int IntKind.u8 0, Value.int IntKind.u8 0, Value.int IntKind.u8 0] 51
  have AK : Hid (Blk (w3.alloc (.cells #[Value.int IntKind.u8 0, Value.int IntKind.u8 0, Value.int IntKind.u8 0, Value.int IntKind.u8 0, Value.int IntKind.u8 0, Value.int IntKind.u8 0, Value.int IntKind.u8 0, Value.int IntKind.u8 0] 51)) w.heap.size cs) := Z0.out.up y1 Z0.out.lt
  have AR : Hid (Blk (w3.alloc (.cells #[Value.int IntKind.u8 0, Value.int IntKind.u8 0, Value.int IntKind.u8 0, Value.int IntKind.u8 0, Value.int IntKind.u8 0, Value.int IntKind.u8 0, Value.int IntKind.u8 0, Value.int IntKind.u8 0] 51)) kr (p.map b8)) := ZR.out.up y1 ZR.out.lt
  have A0 : Hid (Blk (w3.alloc (.cells #[Value.int IntKind.u8 0, Value.int IntKind.u8 0, Value.int IntKind.u8 0, Value.int IntKind.u8 0, Value.int IntKind.u8 0, Value.int IntKind.u8 0, Value.int IntKind.u8 0, Value.int IntKind.u8 0] 51)) w3.heap.size (zB 8)) := y0
  have A1 : Hid (Below w.heap.size w (w3.alloc (.cells #[Value.int IntKind.u8 0, Value.int IntKind.u8 0, Value.int IntKind.u8 0, Value.int IntKind.u8 0, Value.int IntKind.u8 0, Value.int IntKind.u8 0, Value.int IntKind.u8 0, Value.int IntKind.u8 0] 51))) := Z1.out.trans (y1.mono Z1.out.size)
  have TA : Hid ((w3.alloc (.cells #[Value.int IntKind.u8 0, Value.int IntKind.u8 0, Value.int IntKind.u8 0, Value.int IntKind.u8 0, Value.int IntKind.u8 0, Value.int IntKind.u8 0, Value.int IntKind.u8 0, Value.int IntKind.u8 0] 51)).there w3.heap.size 0 (a6.map b8).length) := A0.out.there (by rw [List.length_map, zB_length, A6.out]; decide)
  have KA0 : Hid (kr < w3.heap.size) := k3.lt
  clear hb3 y0 y1 k3 Y0 Y1 Z0 Z1 ZR CT2 HKR
  go_wp2_with (first | simp only [zero_e8] | refine wp_store_eq rfl 51 (.tmp 6) (.tmp 15) rfl w3.heap.size 0 (a6.map b8) rfl rfl TA.out (info_n info_e8 a6 A6.out) (one_b8 _) ?_)
  intro w4 hw4
  obtain ⟨ka, hka⟩ : ∃ ka, ka = w3.heap.size := ⟨_, rfl⟩
  rw [← hka] at A0 hw4 KA0 ⊢
  have KR : Hid (w.heap.size < kr ∧ kr < ka) := ⟨KR0.out, KA0.out⟩
  have SK0 : Hid (Blk w4 w.heap.size cs) := by rw [hw4.out]; exact AK.out.apart (by have := KR.out; omega)
  have SA0 : Hid (Blk w4 ka ((S (n * 0)).1.map b8)) := by rw [hw4.out, Nat.mul_zero, S0.out.1]; exact A0.out.put (by rw [List.length_map, zB_length, A6.out])
  have SR0 : Hid (Blk w4 kr ((S (n * 0)).2.flatten.map b8)) := by rw [hw4.out, Nat.mul_zero, S0.out.2]; exact AR.out.apart (by have := KR.out; omega)
  have C1 : Hid (Below w.heap.size w w4) := by rw [hw4.out]; exact below_setCells _ _ _ A1.out (by have := KR.out; omega)
  clear hw4 A0 A1 AK AR TA hka KA0 KR0 S0 A6
  go_wp2_with fail
  go_loopw [20] (fun x wx => ∃ j : Nat, j ≤ 6 ∧ x = .int .i64 (j : Int) ∧ Hid (Blk wx w.heap.size cs) ∧ Hid (Blk wx ka ((S (n * j)).1.map b8)) ∧ Hid (Blk wx kr ((S (n * j)).2.flatten.map b8)) ∧ Hid (Below w.heap.size w wx)) (fun x _ => 6 - (intOf x).toNat)
  case atStart => exact ⟨0, by omega, rfl, SK0, SA0, SR0, C1⟩
  case round =>
    clear SK0 SA0 SR0 C1
    obtain ⟨j, hj, rfl, SK, SA, SR, C1⟩ := hrel
    by_cases hj1 : j < 6
    · have j6 : (j : Int) < 6 := by omega
      have wj : IntKind.i64.wrap ((j : Int) + 1) = (j : Int) + 1 := by rw [IntKind.wrap_i64]; omega
      have J6 : Hid (j < 6) := hj1
      clear hj hj1
      go_wp2_with fail
      go_loopw [10] (fun x wx => ∃ i : Nat, i ≤ n ∧ x = .int .i64 ((i + 1 : Nat) : Int) ∧ Hid (Blk wx w.heap.size cs) ∧ Hid (Blk wx ka ((S (n * j + i)).1.map b8)) ∧ Hid (Blk wx kr ((S (n * j + i)).2.flatten.map b8)) ∧ Hid (Below w.heap.size w wx)) (fun x _ => n + 1 - (intOf x).toNat)
      case atStart => exact ⟨0, by omega, rfl, SK, SA, SR, C1⟩
      case round =>
        clear SK SA SR C1
        obtain ⟨i, hi, rfl, SK, SA, SR, C1⟩ := hrel
        have NB' := NB.out
        have J6' := J6.out
        obtain ⟨i1, hi1e⟩ : ∃ i1, i1 = i + 1 := ⟨_, rfl⟩
        have HI : Hid (i1 = i + 1) := hi1e
        rw [← hi1e]
        by_cases hi1 : i < n
        · have hm : n * j ≤ 8 * 5 := Nat.mul_le_mul NB'.2 (by omega)
          obtain ⟨u, hu⟩ : ∃ u, u = n * j + i := ⟨_, rfl⟩
          have um : u % n = i := by rw [hu, Nat.mul_add_mod, Nat.mod_eq_of_lt hi1]
          have SU : Hid (n * j + (i + 1) = u + 1) := by rw [hu]; exact (Nat.add_assoc _ _ _).symm
          rw [← hu] at SA SR
          have hs := SO.out u
          have ST := SS.out u
          obtain ⟨a, ha⟩ : ∃ a, a = (S u).1 := ⟨_, rfl⟩
          obtain ⟨rs, hrs⟩ : ∃ rs, rs = (S u).2 := ⟨_, rfl⟩
          obtain ⟨ri, hri⟩ : ∃ ri, ri = rs.getD i [] := ⟨_, rfl⟩
          have AO : Hid (A.ok 8 a) := by rw [ha]; exact hs.1
          have RE : Hid (A.okE n rs) := by rw [hrs]; exact hs.2
          have RIO : Hid (A.ok 8 ri) := by rw [hri]; exact RE.out.at hi1
          have AR : Hid (A.ok 16 (a ++ ri)) := A.ok_two AO.out RIO.out
          obtain ⟨b, hb⟩ : ∃ b, b = E (a ++ ri) := ⟨_, rfl⟩
          have BO : Hid (A.ok 16 b) := by rw [hb]; exact BE.out _ AR.out
          have NX : Hid (S (u + 1) = (A.xor8 (b.take 8) (A.be8 (u + 1)), rs.set i (b.drop 8))) := by
            rw [ST]
            unfold A.wstep
            rw [um, ← ha, ← hrs, ← hri, ← hb]
            exact rfl
          have EN : Hid (∀ W, _) := fun W => ENF.out (a ++ ri) W AR.out
          rw [← hb] at EN
          have BLK : Hid (∀ W, _) := fun W => wblock_fun a ri AO.out.1 RIO.out.1 W
          have HLV : Hid (∀ W, _) := fun W => whalves_fun b BO.out.1 W
          have CO : Hid (∀ W, _) := fun W => wstepped_fun (b.take 8) (A.ok_front BO.out) (u + 1) (by omega) W
          have X8 : Hid (A.ok 8 (A.xor8 (b.take 8) (A.be8 (u + 1)))) := A.xor8_ok (A.ok_front BO.out) (A.be8_ok _)
          have PO : Hid (A.ok 8 (b.take 8)) := A.ok_front BO.out
          have QO : Hid (A.ok 8 (b.drop 8)) := A.ok_back BO.out
          obtain ⟨xa, xc, lxa, ef, es⟩ := RE.out.word hi1
          obtain ⟨o8, ho8⟩ : ∃ o8, o8 = i * 8 := ⟨_, rfl⟩
          have io8 : i * 8 = o8 := ho8.symm
          rw [← hri] at ef
          have RNG : Hid (∀ W, Blk W kr (rs.flatten.map b8) → W.rangeAt kr o8 (ri.map b8)) := fun W h => by
            rw [ef, List.map_append, List.map_append] at h
            exact h.range (by rw [List.length_map, lxa, ho8, Nat.mul_comm])
          have PUT : Hid (∀ W, Blk W kr (rs.flatten.map b8) → Blk (W.setCells kr o8 ((b.drop 8).map b8)) kr ((rs.set i (b.drop 8)).flatten.map b8)) := fun W h => by
            rw [ef, List.map_append, List.map_append] at h
            rw [es, List.map_append, List.map_append]
            exact h.store (by rw [List.length_map, lxa, ho8, Nat.mul_comm]) (by rw [List.length_map, List.length_map, QO.out.1, RIO.out.1])
          have ROOM : Hid (o8 + 8 ≤ (rs.flatten.map b8).length) := by rw [List.length_map, RE.out.flen]; show _ ≤ _; omega
          rw [← ha] at SA
          rw [← hrs] at SR
          have i1n : (i1 : Int) ≤ (n : Int) := by omega
          have in1 : (i : Int) < (n : Int) := by omega
          have in2 : i < n := hi1
          have wm : IntKind.i64.wrap ((i1 : Int) - 1) = (i : Int) := by rw [IntKind.wrap_i64]; omega
          have wi : IntKind.i64.wrap ((i1 : Int) + 1) = (i1 : Int) + 1 := by rw [IntKind.wrap_i64]; omega
          obtain ⟨tj, htj⟩ : ∃ tj, tj = n * j := ⟨_, rfl⟩
          have w1_ : IntKind.i64.wrap ((n : Int) * (j : Int)) = (tj : Int) := by rw [htj, IntKind.wrap_i64, ← Int.natCast_mul]; omega
          obtain ⟨u1, hu1⟩ : ∃ u1, u1 = u + 1 := ⟨_, rfl⟩
          have w2_ : IntKind.i64.wrap ((tj : Int) + (i1 : Int)) = (u1 : Int) := by rw [IntKind.wrap_i64]; omega
          have HU1 : Hid (u1 = u + 1) := hu1
          rw [← hu1] at NX CO X8 SU
          have HI1 : Hid (i < n) := hi1
          obtain ⟨a', ha'⟩ : ∃ a', a' = A.xor8 (b.take 8) (A.be8 u1) := ⟨_, rfl⟩
          rw [← ha'] at NX CO X8
          obtain ⟨rs', hrs'⟩ : ∃ rs', rs' = rs.set i (b.drop 8) := ⟨_, rfl⟩
          rw [← hrs'] at NX PUT
          obtain ⟨ab, hab⟩ : ∃ ab, ab = a ++ ri := ⟨_, rfl⟩
          rw [← hab] at EN BLK
          obtain ⟨p8, hp8⟩ : ∃ p8, p8 = b.take 8 := ⟨_, rfl⟩
          rw [← hp8] at PO HLV CO
          obtain ⟨q8, hq8⟩ : ∃ q8, q8 = b.drop 8 := ⟨_, rfl⟩
          rw [← hq8] at QO HLV PUT
          clear hu um hs ST ha hrs hri hb hi hi1 hi1e htj hm NB' J6' xa xc lxa ef es ho8 hu1 ha' hrs' hab hp8 hq8 AR BO
          go_wp2_with fail
          try simp only [Act.put, List.setIfInBounds_toArray, List.set_cons_succ, List.set_cons_zero]
          refine wp_region_three3 16 (.slice (some ⟨kr, 0, none⟩) n n) (.int .i64 (i1 : Int)) (.int .i64 (i : Int)) (by kernel_rfl) (by kernel_rfl) (by kernel_rfl) (by kernel_rfl) (by decide) (by decide) (fun _ _ d _ _ h => by cases d <;> exact h) (by kernel_rfl) (by kernel_rfl) (by kernel_rfl) (.inl ⟨rfl, fun W => by simp [go_sem]⟩) (.inl ⟨rfl, fun W => by simp [go_sem]⟩) (.inl ⟨rfl, fun W => by simp [go_sem, wm]⟩) ?_
          intro U hU f hf hcl
          have RK : Hid (∀ m, (f m).rangeAt w.heap.size 0 cs) := fun m => (SK.out.up (hf m).out SK.out.lt).all
          have RA : Hid (∀ m, (f m).rangeAt ka 0 (a.map b8)) := fun m => (SA.out.up (hf m).out SA.out.lt).all
          have RI : Hid (∀ m, (f m).rangeAt kr o8 (ri.map b8)) := fun m => RNG.out (f m) (SR.out.up (hf m).out SR.out.lt)
          have BF : Hid (∀ m, _) := fun m => BLK.out (f m)
          have EF : Hid (∀ m, _) := fun m => EN.out (f m)
          have HF : Hid (∀ m, _) := fun m => HLV.out (f m)
          simp only [List.take_succ_cons, List.take_zero, List.drop_succ_cons, List.drop_zero, Act.put, List.setIfInBounds_toArray, List.set_cons_succ, List.set_cons_zero]
          repeat (first | (refine quiet_load rfl 26 (.tmp 2) rfl w.heap.size 0 rfl cs dk (fun W hW => by obtain ⟨m, rfl⟩ := hW; exact RK.out m) UK.out.1 UK.out.2 IK.out ?_; simp only [Act.put, List.setIfInBounds_toArray, List.set_cons_succ, List.set_cons_zero]) | (refine quietA_ld rfl u_e8 info_e8 (.tmp 6) rfl ka 0 rfl a AO.out.1 (fun W hW => by obtain ⟨m, rfl⟩ := hW; exact RA.out m) ?_; simp only [Act.put, List.setIfInBounds_toArray, List.set_cons_succ, List.set_cons_zero]) | (refine quietA_ld rfl u_e8 info_e8 (.tmp 37) rfl kr o8 rfl ri RIO.out.1 (fun W hW => by obtain ⟨m, rfl⟩ := hW; exact RI.out m) ?_; simp only [Act.put, List.setIfInBounds_toArray, List.set_cons_succ, List.set_cons_zero]) | go_big_quiet_step (first | (go_at_call 25; exact (BF.out _).mono fun e w'' ⟨he, hb⟩ => ⟨he, hcl.out _ _ hb⟩) | (go_at_call 24; exact (EF.out _).mono fun e w'' ⟨he, hb⟩ => ⟨he, hcl.out _ _ hb⟩) | (go_at_call 23; exact (HF.out _).mono fun e w'' ⟨he, hb⟩ => ⟨he, hcl.out _ _ hb⟩)))
          refine wpQuiet_nil ?_
          intro m
          have hb5 := (hf m).out
          generalize f m = w5 at hb5 ⊢
          try simp only [List.drop_succ_cons, List.drop_zero]
          have UK5 : Hid (Blk w5 w.heap.size cs) := SK.out.up hb5 SK.out.lt
          have UA : Hid (Blk w5 ka (a.map b8)) := SA.out.up hb5 SA.out.lt
          have UR : Hid (Blk w5 kr (rs.flatten.map b8)) := SR.out.up hb5 SR.out.lt
          have UB : Hid (Below w.heap.size w w5) := C1.out.trans (hb5.mono C1.out.size)
          have T5 : Hid (w5.there ka 0 (p8.map b8).length) := UA.out.there (by rw [List.length_map, List.length_map, PO.out.1, AO.out.1]; omega)
          clear hb5 hf hcl RK RA RI BF EF HF SK SA SR C1 EN BLK HLV RNG
          go_wp2_with (refine wp_store_eq rfl 51 (.tmp 6) (.tmp 42) rfl ka 0 (p8.map b8) rfl rfl T5.out (info_n info_e8 p8 PO.out.1) (one_b8 _) ?_)
          intro w6 hw6
          have SK : Hid (Blk w6 w.heap.size cs) := by rw [hw6.out]; exact UK5.out.apart (by have := KR.out; omega)
          have SA : Hid (Blk w6 ka (p8.map b8)) := by rw [hw6.out]; exact UA.out.put (by rw [List.length_map, List.length_map, PO.out.1, AO.out.1])
          have SR : Hid (Blk w6 kr (rs.flatten.map b8)) := by rw [hw6.out]; exact UR.out.apart (by have := KR.out; omega)
          have C1 : Hid (Below w.heap.size w w6) := by rw [hw6.out]; exact below_setCells _ _ _ UB.out (by have := KR.out; omega)
          have T6 : Hid (w6.there kr o8 (q8.map b8).length) := SR.out.there (by rw [List.length_map, QO.out.1]; exact ROOM.out)
          clear hw6 UK5 UA UR UB T5
          go_wp2_with (refine wp_store_eq rfl 51 (.tmp 44) (.tmp 43) rfl kr o8 (q8.map b8) rfl rfl T6.out (info_n info_e8 q8 QO.out.1) (one_b8 _) ?_)
          intro w7 hw7
          have UK5 : Hid (Blk w7 w.heap.size cs) := by rw [hw7.out]; exact SK.out.apart (by have := KR.out; omega)
          have UA : Hid (Blk w7 ka (p8.map b8)) := by rw [hw7.out]; exact SA.out.apart (by have := KR.out; omega)
          have UR : Hid (Blk w7 kr (rs'.flatten.map b8)) := by rw [hw7.out]; exact PUT.out w6 SR.out
          have UB : Hid (Below w.heap.size w w7) := by rw [hw7.out]; exact below_setCells _ _ _ C1.out (by have := KR.out; omega)
          clear hw7 SK SA SR C1 T6 PUT ROOM
          clear io8 in1 in2 wm
          have CO7 : Hid _ := CO.out w7
          clear CO
          go_wp2_with (refine wpList_load_mid rfl 51 (.tmp 6) rfl ka 0 rfl (p8.map b8) _ UA.out.all u_e8 rfl (info_n info_e8 p8 PO.out.1) ?_)
          refine Calls.mono CO7.out ?_
          rintro e w8 ⟨rfl, hb8⟩
          have SK : Hid (Blk w8 w.heap.size cs) := UK5.out.up hb8 UK5.out.lt
          have SA : Hid (Blk w8 ka (p8.map b8)) := UA.out.up hb8 UA.out.lt
          have SR : Hid (Blk w8 kr (rs'.flatten.map b8)) := UR.out.up hb8 UR.out.lt
          have C1 : Hid (Below w.heap.size w w8) := UB.out.trans (hb8.mono UB.out.size)
          have T8 : Hid (w8.there ka 0 (a'.map b8).length) := SA.out.there (by rw [List.length_map, List.length_map, PO.out.1, X8.out.1]; omega)
          clear hb8 UK5 UA UR UB CO7
          go_wp2_with (refine wp_store_eq rfl 51 (.tmp 6) (.tmp 51) rfl ka 0 (a'.map b8) rfl rfl T8.out (info_n info_e8 a' X8.out.1) (one_b8 _) ?_)
          intro w9 hw9
          have UK5 : Hid (Blk w9 w.heap.size cs) := by rw [hw9.out]; exact SK.out.apart (by have := KR.out; omega)
          have UA : Hid (Blk w9 ka (a'.map b8)) := by rw [hw9.out]; exact SA.out.put (by rw [List.length_map, List.length_map, PO.out.1, X8.out.1])
          have UR : Hid (Blk w9 kr (rs'.flatten.map b8)) := by rw [hw9.out]; exact SR.out.apart (by have := KR.out; omega)
          have UB : Hid (Below w.heap.size w w9) := by rw [hw9.out]; exact below_setCells _ _ _ C1.out (by have := KR.out; omega)
          clear hw9 SK SA SR C1 T8
          go_wp2_with fail
          go_roundw
          case rel => exact ⟨i + 1, HI1.out, by rw [← HI.out]; first | rfl | go_num, UK5, by rw [SU.out, NX.out]; exact UA, by rw [SU.out, NX.out]; exact UR, UB⟩
          case measure => have h1 := HI.out; have h2 := HI1.out; simp [intOf]; omega
        · obtain rfl : i = n := by omega
          have nn2 : ¬ (i1 : Int) ≤ (i : Int) := by omega
          have SU : Hid (i * j + i = i * (j + 1)) := (Nat.mul_succ i j).symm
          rw [SU.out] at SA SR
          clear hi hi1 hi1e NB' J6'
          go_wp2_with fail
          go_roundw
          case rel => exact ⟨j + 1, J6.out, by first | rfl | go_num, SK, SA, SR, C1⟩
          case measure => have := J6.out; simp [intOf]; omega
    · obtain rfl : j = 6 := by omega
      have n6 : ¬ ((6 : Nat) : Int) < 6 := by omega
      rw [show n * 6 = 6 * n from Nat.mul_comm _ _] at SA SR
      have hs := SO.out (6 * n)
      obtain ⟨a, ha⟩ : ∃ a, a = (S (6 * n)).1 := ⟨_, rfl⟩
      obtain ⟨rf, hrf⟩ : ∃ rf, rf = (S (6 * n)).2.flatten := ⟨_, rfl⟩
      rw [← ha] at SA
      rw [← hrf] at SR
      have AL : Hid (a.length = 8) := by rw [ha]; exact hs.1.1
      have RL : Hid (rf.length = n * 8) := by rw [hrf, hs.2.flen]; exact Nat.mul_comm _ _
      have FN : Hid (a ++ rf = (S (6 * n)).1 ++ (S (6 * n)).2.flatten) := by rw [ha, hrf]; exact rfl
      clear hs ha hrf hj hj1 FIN SO SS ENF BE
      go_wp2_with (first | refine wpList_load_mid rfl 51 (.tmp 6) rfl ka 0 rfl (a.map b8) _ SA.out.all u_e8 rfl (info_n info_e8 a AL.out) ?_ | refine wp_bsE rfl (.tmp 53) rfl a AL.out rfl ?_)
      intro w5 o5 hb5
      have O5 : Hid _ := o5
      have B5 : Hid (Below w.heap.size w w5) := C1.out.trans (hb5.mono C1.out.size)
      have R5 : Hid (w5.rangeAt kr 0 (rf.map b8)) := (SR.out.up hb5 SR.out.lt).all
      have G5 : Hid _ := hb5.size
      obtain ⟨kb, hkb⟩ : ∃ kb, kb = wr.heap.size := ⟨_, rfl⟩
      rw [← hkb] at O5 G5 ⊢
      have L5 : Hid (w.heap.size ≤ kb) := by rw [hkb]; exact C1.out.size
      clear o5 hb5 hkb SA SR SK C1
      go_wp2_with (refine wp_appE rfl (.tmp 54) (.tmp 55) rfl kb _ 1 a kr 0 n n rf rfl O5.out rfl RL.out R5.out (by have := NB.out; omega) G5.out ?_)
      intro v6 w6 o6 hb6
      obtain ⟨n1, hn1⟩ : ∃ n1, n1 = 1 + n := ⟨_, rfl⟩
      rw [← hn1] at o6
      obtain ⟨g6, c6, rfl, hc6, hr6⟩ := o6.form (by omega)
      have B6 : Hid (Below w.heap.size w w6) := B5.out.trans (hb6.mono L5.out)
      have JN : Hid _ := wjoined_fun (a ++ rf) n1 (by rw [List.length_append, AL.out, RL.out]; omega) (by have := NB.out; omega) g6 0 c6 hc6 w6 hr6
      clear o6 hb6 hc6 hr6 hn1 B5 R5 O5 G5 L5
      go_wp2_with fail
      refine Calls.mono JN.out ?_
      rintro e w7 ⟨uv, rfl, y7, hb7⟩
      have Y7 : Hid _ := y7
      have B7 : Hid (Below w.heap.size w w7) := B6.out.trans (hb7.mono B6.out.size)
      clear y7 hb7 B6 JN
      go_wp2_with fail
      go_ret2
      exact ⟨_, rfl, by rw [← FN.out]; exact Y7.out, B7.out⟩
end Go.Proofs.Ytejabkmhpiabnaa
