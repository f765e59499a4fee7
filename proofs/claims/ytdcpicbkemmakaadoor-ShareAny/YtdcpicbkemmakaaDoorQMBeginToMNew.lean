/- Texts that were joined: MBegin, MNew. -/
import Derived.Test.YtdcpicbkemmakaaDoorQHHashToMacM
import Derived.Test.YtdcpicbkemmakaaDoorQUpMToUpS
import Derived.Test.YtdcpicbkemmakaaDoorQMFit
/- The contract of mac.begin: a digest's state behind the key, each byte xor one. -/
namespace Go.Proofs.YtdcpicbkemmakaaDoor
open Go.RowKit
set_option linter.unusedSimpArgs false
attribute [local go_sem] YieldsP execOp
attribute [local simp] MP.eq_p
set_option maxRecDepth 20000 in
set_option maxHeartbeats 2000000 in
theorem mbegin_fun (K : List Nat) (hK : K.length = 64) (lK : ∀ x ∈ K, x < 256) (b : Nat) (hb : b < 256) (w : World) (hT : KTab w) :
    Calls Tryd.prog 76 #[vB K, b8 b] w fun e w' => e = .returned (stV IV 0 (xb K b)) ∧ Below w.heap.size w w' := by
  have W1 : Hid _ := write_fun IV 0 rfl [] (xb K b) (by simp) (xb_low lK hb) (by rw [xb_length, hK]; decide)
  rw [List.nil_append] at W1
  have LD : Hid _ := getD_low lK
  have XB : Hid (∀ k, bits .xor .u8 ((K.getD k 0 : Nat) : Int) (b : Int) = ((K.getD k 0 ^^^ b : Nat) : Int)) := fun k => b_xor (getD_low lK k) hb
  have XG : Hid (∀ k, k < 64 → (xK K b k)[k]? = some (K.getD k 0)) := fun k h => xK_get K b k (by omega)
  have XS : Hid (∀ k, k < 64 → (xK K b k).set k (K.getD k 0 ^^^ b) = xK K b (k + 1)) := fun k h => xK_set K b k (by omega)
  have XA : Hid _ := xK_all K b hK
  have XL : Hid (∀ k, (xK K b k).length = 64) := fun k => (xK_length K b k).trans hK
  have X0 : Hid _ := xK_zero K b
  have HT : Hid (KTab w) := hT
  obtain ⟨ds, hu, hr⟩ := u_state'
  have SV : Hid _ := stV_eq (xb K b)
  have SI : Hid _ := info_state.trans (congrArg some (stC_length (xb K b)).symm)
  have SL : Hid _ := stC_length (xb K b)
  have SO : Hid _ := one_stC (xb K b)
  have BL : Hid _ := (xb_length K b).trans hK
  rw [SV.out]
  rw [SV.out] at W1
  generalize stC (xb K b) = st at *
  obtain ⟨x0, x1, x2⟩ := al2 w (K.map b8).toArray zS.toArray 100 102
  have Y0 : Hid (Blk _ _ (K.map b8)) := x0
  have Y1 : Hid (Blk _ _ zS) := x1
  have Y2 : Hid (Below _ _ _) := x2
  rw [← X0.out] at Y0
  clear hT lK hb x0 x1 x2 SV X0 hK
  go_enter Tryd.func76, Tryd.ntmps76
  go_wp2_with (simp only [zero_state])
  go_loopw [6] (fun i wr => ∃ k : Nat, k ≤ 64 ∧ i = .int .i64 k ∧ Hid (Blk wr w.heap.size ((xK K b k).map b8)) ∧ Hid (Blk wr (w.heap.size + 1) zS) ∧ Hid (Below w.heap.size w wr)) (fun i _ => 64 - (intOf i).toNat)
  case atStart => exact ⟨0, by omega, rfl, Y0, Y1, Y2⟩
  case round =>
    clear Y0 Y1 Y2
    obtain ⟨k, hk, rfl, k0, k1, hd_⟩ := hrel
    by_cases hlt : k < 64
    · have c1 := k0.out.cell k (b8 (K.getD k 0)) (by rw [List.getElem?_map, XG.out k hlt]; rfl)
      have c2 := k0.out.fz k
      have XX : Hid _ := XB.out k
      have XT : Hid _ := XS.out k hlt
      generalize K.getD k 0 = x at *
      go_wp2_with fail
      rw [XX.out]
      have b1 := k0.out.set k (b8 (x ^^^ b)) (by rw [List.length_map, XL.out]; exact hlt)
      rw [← List.map_set, XT.out] at b1
      go_roundw
      case rel => exact ⟨k + 1, by omega, by go_num, b1, k1.out.apart1 (by omega), hd_.out.setCell (Nat.le_refl _) _⟩
      case measure => simp [intOf]; omega
    · obtain rfl : k = 64 := by omega
      rw [XA.out] at k0
      clear XG XS XL XB XA LD
      have SA : Hid (∀ W, _) := fun W => slice_all u_blk info_u8 (by decide) w.heap.size 0 W
      go_wp2_with fail
      refine wp_region_monoSE 3 [MP.eq (stV IV 0 []), MP.eq (.slice (some ⟨w.heap.size, 0, none⟩) 64 64), MP.eq (.agg st.toArray)] (by kernel_rfl) (by kernel_rfl) rfl (by decide) (by kernel_rfl) ?_
      apply Exists.intro
      refine ⟨fun vals => ?_, ?_, fun vals3 w3 hb3 hF hO => ?_⟩
      · simp only [putsV, dstL, List.length_cons, List.length_nil, Nat.zero_add, Nat.reduceAdd, List.getElem?_cons_zero, List.getElem?_cons_succ, Option.bind_some, Act.put, List.setIfInBounds_toArray, List.set_cons_succ, List.set_cons_zero]
        rfl
      · refine ⟨?_, ?_, ?_, trivial⟩
        · intro vals W hW hw hd
          try simp [Region.binds] at hd
          refine ⟨by first | rfl | simp [Region.wanted, yielded, hd], ?_⟩
          simp [go_sem, hd]
          exact (new_fun W).mono fun e w' ⟨he, hb⟩ => ⟨_, he, rfl, hb⟩
        · intro vals W hW hw hd
          try simp [Region.binds] at hd
          refine ⟨by first | rfl | simp [Region.wanted, yielded, hd], ?_⟩
          simp [go_sem, hd, SA.out W]
          exact Below.refl _ _
        · intro vals W hW hw hd
          try simp [Region.binds] at hd
          refine ⟨by first | rfl | simp [Region.wanted, yielded, hd], ?_⟩
          simp [go_sem, hd]
          exact (W1.out _ W (By.of_blk (k0.out.up hW.out k0.out.lt) BL.out) (HT.out.up (hd_.out.trans (hW.out.mono hd_.out.size)) HT.out.pos)).mono fun e w' ⟨he, hb⟩ => ⟨_, he, rfl, hb⟩
      obtain ⟨f0, f1, f2, _⟩ := hF
      simp only [MP.eq_p] at f0 f1 f2
      rw [f0, f1, f2]
      simp only [List.drop_succ_cons, List.drop_zero]
      have Y1 : Hid (Blk w3 (w.heap.size + 1) zS) := k1.out.up hb3.out k1.out.lt
      have D3 : Hid (Below w.heap.size w w3) := hd_.out.trans (hb3.out.mono hd_.out.size)
      clear f0 f1 f2 hb3 hO k0 k1 hd_ W1 HT SA
      have T1 : Hid (w3.there (w.heap.size + 1) 0 st.length) := Y1.out.there (by rw [SL.out, zS_length]; omega)
      go_wp2_with (refine wp_store_eq rfl 102 (.tmp 4) (.tmp 18) rfl (w.heap.size + 1) 0 st rfl rfl T1.out SI.out SO.out ?_)
      intro w5 hw5
      go_wp2_with fail
      refine bodyPost_ret (v := .agg st.toArray) ?_ rfl ⟨rfl, ?_⟩
      · rw [hw5.out]
        exact results_cell (b := w.heap.size + 1) rfl rfl (World.rangeAt_setCells_same _ _ _ _ T1.out) hu hr SI.out
      · rw [hw5.out]
        exact below_setCells _ _ _ D3.out (by omega)
end Go.Proofs.YtdcpicbkemmakaaDoor

/- The contracts of mac.New, State.Write, State.Sum and mac.Sum. -/
namespace Go.Proofs.YtdcpicbkemmakaaDoor
open Go.RowKit
set_option linter.unusedSimpArgs false
attribute [local go_sem] YieldsP execOp
attribute [local simp] MP.eq_p
theorem yields_build2 {P : Program} {o : Oper} {a : Act} {w : World} {φ : Value → World → Prop} (t : TypeId) (x y : Operand) (ho : o.op = .build t #[(0, x), (1, y)]) (u v : Value) (hx : a.eval x = u) (hy : a.eval y = v) (cs : Array Value) (hb : P.built t [(0, u), (1, v)] = some cs)
    (h : φ (.agg cs) w) : YieldsP P o a w φ := by
  have e : (execOp a.eval o).run P w = .ok (.value (.agg cs)) w := by
    have e1 : (Instr.build t ((#[(0, x), (1, y)] : Array (Nat × Operand)).map fun x => (x.fst, a.eval x.snd))).run P w = .ok (.agg cs) w := run_build w t _ _ (by simpa [hx, hy] using hb)
    unfold execOp
    simp only [ho, Sem.run_bind, e1, Result.andThen_ok, Sem.run_pure]
  unfold YieldsP
  rw [e]
  exact ⟨h, Below.refl _ _⟩
theorem mC_new (K : List Nat) : stC (xb K 54) ++ stC (xb K 92) = mC K [] := by rw [mC, List.append_nil]
set_option maxRecDepth 20000 in
set_option maxHeartbeats 2000000 in
theorem mnew_fun (key : List Nat) (lk : ∀ x ∈ key, x < 256) (zk : key.length ≤ 9223372036854775807) (v : Value) (w : World) (hv : By w v key) (hT : KTab w) :
    Calls Tryd.prog 68 #[v] w fun e w' => e = .returned (mV (fitS key) []) ∧ Below w.heap.size w w' := by
  have FT : Hid _ := fit_fun key lk zk v
  have HV : Hid (By w v key) := hv
  have HT : Hid (KTab w) := hT
  have KL : Hid _ := fitS_length key
  have B1 : Hid _ := mbegin_fun (fitS key) (fitS_length key) (fitS_low lk) 54 (by decide)
  have B2 : Hid _ := mbegin_fun (fitS key) (fitS_length key) (fitS_low lk) 92 (by decide)
  have BM : Hid _ := built_mac (stC (xb (fitS key) 54)) (stC (xb (fitS key) 92)) (stC_length _) (stC_length _)
  rw [mC_new] at BM
  rw [stV_eq] at B1 B2
  have MI : Hid _ := info_mst.trans (congrArg some (mC_length (fitS key) []).symm)
  have ML : Hid _ := mC_length (fitS key) []
  have MO : Hid _ := one_mC (fitS key) []
  have FI : Hid _ := info_blk.trans (congrArg some (show 64 = ((fitS key).map b8).length by rw [List.length_map, fitS_length]))
  obtain ⟨ds, hu, hr⟩ := u_mst
  have ME : Hid (mV (fitS key) [] = .agg (mC (fitS key) []).toArray) := rfl
  rw [ME.out]
  clear ME
  generalize mC (fitS key) [] = mc at *
  generalize stC (xb (fitS key) 54) = s1 at *
  generalize stC (xb (fitS key) 92) = s2 at *
  generalize fitS key = K at *
  obtain ⟨x0, x1⟩ := al1 w (zS ++ zS).toArray 104
  have Y0 : Hid (Blk _ _ (zS ++ zS)) := x0
  have Y1 : Hid (Below _ _ _) := x1
  clear hv hT lk zk x0 x1
  go_enter Tryd.func68, Tryd.ntmps68
  go_wp2_with (simp only [zero_mst])
  try rw [show Tryd.zeroCells104 = (zS ++ zS).toArray from rfl]
  generalize w.alloc (Obj.cells (zS ++ zS).toArray 104) = w1 at *
  refine (FT.out w1 (HV.out.up Y1.out (Nat.le_refl _)) (HT.out.up Y1.out HT.out.pos)).mono ?_
  rintro e w2 ⟨rfl, h2⟩
  have D2 : Hid (Below w.heap.size w w2) := Y1.out.trans (h2.mono Y1.out.size)
  have Z0 : Hid (Blk w2 w.heap.size (zS ++ zS)) := Y0.out.up h2 Y0.out.lt
  clear h2 Y0 Y1 FT HV
  have T1 : Hid (∀ C t, C.size = 64 → World.there (w2.alloc (.cells C t)) w2.heap.size 0 (K.map b8).length) := fun C t hC => (al1 w2 C t).1.there (by rw [List.length_map, KL.out, Array.length_toList, hC]; omega)
  go_wp2_with (refine wp_store_eq rfl 100 (.tmp 3) (.tmp 5) rfl w2.heap.size 0 (K.map b8) rfl rfl (T1.out _ _ rfl) FI.out (one_b8 _) ?_)
  intro w3 hw3
  obtain ⟨b3, h3⟩ : Blk w3 w2.heap.size (K.map b8) ∧ Below w2.heap.size w2 w3 := by
    rw [hw3.out]
    exact alst w2 _ _ _ (by rw [List.length_map, KL.out]; rfl)
  have D3 : Hid (Below w.heap.size w w3) := D2.out.trans (h3.mono D2.out.size)
  have A0 : Hid (Blk w3 w.heap.size (zS ++ zS)) := Z0.out.up h3 Z0.out.lt
  have A1 : Hid (Blk w3 w2.heap.size (K.map b8)) := b3
  clear hw3 b3 h3 D2 Z0 T1
  generalize w2.heap.size = g at *
  go_wp2_with fail
  refine wp_region_monoSE 5 [MP.eq (vB K), MP.eq (.agg s1.toArray), MP.eq (vB K), MP.eq (.agg s2.toArray), MP.eq (.agg mc.toArray)] (by kernel_rfl) (by kernel_rfl) rfl (by decide) (by kernel_rfl) ?_
  apply Exists.intro
  refine ⟨fun vals => ?_, ?_, fun vals4 w4 hb4 hF hO => ?_⟩
  · simp only [putsV, dstL, List.length_cons, List.length_nil, Nat.zero_add, Nat.reduceAdd, List.getElem?_cons_zero, List.getElem?_cons_succ, Option.bind_some, Act.put, List.setIfInBounds_toArray, List.set_cons_succ, List.set_cons_zero]
    rfl
  · refine ⟨?_, ?_, ?_, ?_, ?_, trivial⟩
    · intro vals W hW hw hd
      try simp [Region.binds] at hd
      refine ⟨by first | rfl | simp [Region.wanted, yielded, hd], ?_⟩
      exact yields_load 100 (.tmp 3) rfl g 0 rfl (K.map b8) _ (A1.out.up hW.out A1.out.lt).all u_blk rfl FI.out rfl
    · intro vals W hW hw hd
      try simp [Region.binds] at hd
      refine ⟨by first | rfl | simp [Region.wanted, yielded, hd], ?_⟩
      simp [go_sem, hd]
      exact (B1.out W (HT.out.up (D3.out.trans (hW.out.mono D3.out.size)) HT.out.pos)).mono fun e w' ⟨he, hb⟩ => ⟨_, he, rfl, hb⟩
    · intro vals W hW hw hd
      try simp [Region.binds] at hd
      refine ⟨by first | rfl | simp [Region.wanted, yielded, hd], ?_⟩
      exact yields_load 100 (.tmp 3) rfl g 0 rfl (K.map b8) _ (A1.out.up hW.out A1.out.lt).all u_blk rfl FI.out rfl
    · intro vals W hW hw hd
      try simp [Region.binds] at hd
      refine ⟨by first | rfl | simp [Region.wanted, yielded, hd], ?_⟩
      simp [go_sem, hd]
      exact (B2.out W (HT.out.up (D3.out.trans (hW.out.mono D3.out.size)) HT.out.pos)).mono fun e w' ⟨he, hb⟩ => ⟨_, he, rfl, hb⟩
    · intro vals W hW hw hd
      try simp [Region.binds] at hd
      refine ⟨by first | rfl | simp [Region.wanted, yielded, hd], ?_⟩
      exact yields_build2 104 (.tmp 7) (.tmp 9) rfl _ _ hd.1 hd.2 _ BM.out rfl
  obtain ⟨f0, f1, f2, f3, f4, _⟩ := hF
  simp only [MP.eq_p] at f0 f1 f2 f3 f4
  rw [f0, f1, f2, f3, f4]
  simp only [List.drop_succ_cons, List.drop_zero]
  have E0 : Hid (Blk w4 w.heap.size (zS ++ zS)) := A0.out.up hb4.out A0.out.lt
  have D4 : Hid (Below w.heap.size w w4) := D3.out.trans (hb4.out.mono D3.out.size)
  clear f0 f1 f2 f3 f4 hb4 hO A0 A1 D3 B1 B2 BM HT
  have T4 : Hid (w4.there w.heap.size 0 mc.length) := E0.out.there (by rw [ML.out, List.length_append, zS_length]; omega)
  go_wp2_with (refine wp_store_eq rfl 104 (.tmp 2) (.tmp 10) rfl w.heap.size 0 mc rfl rfl T4.out MI.out MO.out ?_)
  intro w5 hw5
  go_wp2_with fail
  refine bodyPost_ret (v := .agg mc.toArray) ?_ rfl ⟨rfl, ?_⟩
  · rw [hw5.out]
    exact results_cell (b := w.heap.size) rfl rfl (World.rangeAt_setCells_same _ _ _ _ T4.out) hu hr MI.out
  · rw [hw5.out]
    exact below_setCells _ _ _ D4.out (Nat.le_refl _)
set_option maxRecDepth 20000 in
set_option maxHeartbeats 2000000 in
theorem mwrite_fun (K : List Nat) (lK : ∀ x ∈ K, x < 256) (p q : List Nat) (lp : ∀ x ∈ p, x < 256) (lq : ∀ x ∈ q, x < 256) (zq : q.length ≤ 9223372036854775807) (v : Value) (w : World) (hv : By w v q) (hT : KTab w) :
    Calls Tryd.prog 85 #[mV K p, v] w fun e w' => e = .returned (mV K (p ++ q)) ∧ Below w.heap.size w w' := by
  have WR : Hid _ := write_fun IV 0 rfl (xb K 54 ++ p) q (low_app (xb_low lK (by decide)) lp) lq zq v
  rw [stV_eq, stV_eq, List.append_assoc] at WR
  have HV : Hid (By w v q) := hv
  have HT : Hid (KTab w) := hT
  have ME : Hid (∀ t, mV K t = .agg (mC K t).toArray) := fun _ => rfl
  rw [ME.out, ME.out]
  have E1 : Hid (mC K p = stC (xb K 54 ++ p) ++ stC (xb K 92)) := rfl
  have E2 : Hid (mC K (p ++ q) = stC (xb K 54 ++ (p ++ q)) ++ stC (xb K 92)) := rfl
  have MI : Hid _ := info_mst.trans (congrArg some (mC_length K (p ++ q)).symm)
  have ML : Hid _ := mC_length K (p ++ q)
  have MO : Hid _ := one_mC K (p ++ q)
  have I1 : Hid _ := info_state.trans (congrArg some (stC_length (xb K 54 ++ p)).symm)
  have I2 : Hid _ := info_state.trans (congrArg some (stC_length (xb K 54 ++ (p ++ q))).symm)
  have L1 : Hid _ := stC_length (xb K 54 ++ p)
  have L2 : Hid _ := stC_length (xb K 54 ++ (p ++ q))
  have O2 : Hid _ := one_stC (xb K 54 ++ (p ++ q))
  generalize stC (xb K 54 ++ p) = s1 at *
  generalize stC (xb K 54 ++ (p ++ q)) = s2 at *
  generalize stC (xb K 92) = so at *
  rw [E1.out]
  generalize mC K (p ++ q) = mc at *
  obtain ⟨ds, hu, hr⟩ := u_mst
  obtain ⟨d2, hu2, hr2⟩ := u_state'
  obtain ⟨x0, x1, x2⟩ := al2 w (s1 ++ so).toArray (zS ++ zS).toArray 104 104
  have Y0 : Hid (Blk _ _ (s1 ++ so)) := x0
  have Y1 : Hid (Blk _ _ (zS ++ zS)) := x1
  have Y2 : Hid (Below _ _ _) := x2
  clear hv hT lK lp lq zq x0 x1 x2 E1 ME
  go_enter Tryd.func85, Tryd.ntmps85
  have R0 : Hid (World.rangeAt ((w.alloc (.cells (s1 ++ so).toArray 104)).alloc (.cells (zS ++ zS).toArray 104)) w.heap.size 0 s1) := Blk.range (a := []) Y0.out rfl
  go_wp2_with (first | (simp only [zero_mst]) | (refine wpList_load_mid rfl 102 (.tmp 5) rfl w.heap.size 0 rfl s1 _ R0.out hu2 hr2 I1.out ?_))
  try rw [show Tryd.zeroCells104 = (zS ++ zS).toArray from rfl]
  generalize (w.alloc (.cells (s1 ++ so).toArray 104)).alloc (.cells (zS ++ zS).toArray 104) = w1 at *
  refine (WR.out w1 (HV.out.up Y2.out (Nat.le_refl _)) (HT.out.up Y2.out HT.out.pos)).mono ?_
  rintro e w2 ⟨rfl, h2⟩
  have D2 : Hid (Below w.heap.size w w2) := Y2.out.trans (h2.mono Y2.out.size)
  have Z0 : Hid (Blk w2 w.heap.size (s1 ++ so)) := Y0.out.up h2 Y0.out.lt
  have Z1 : Hid (Blk w2 (w.heap.size + 1) (zS ++ zS)) := Y1.out.up h2 Y1.out.lt
  clear h2 Y0 Y1 Y2 R0 WR HV HT
  have T2 : Hid (w2.there w.heap.size 0 s2.length) := Z0.out.there (by rw [List.length_append, L1.out, L2.out]; omega)
  go_wp2_with (refine wp_store_eq rfl 102 (.tmp 9) (.tmp 8) rfl w.heap.size 0 s2 rfl rfl T2.out I2.out O2.out ?_)
  intro w3 hw3
  have B3 : Hid (Blk w3 w.heap.size mc) := by
    rw [hw3.out, E2.out]
    exact Blk.store (a := []) Z0.out rfl (by rw [L1.out, L2.out])
  have A3 : Hid (Blk w3 (w.heap.size + 1) (zS ++ zS)) := by
    rw [hw3.out]
    exact Z1.out.apart (by omega)
  have D3 : Hid (Below w.heap.size w w3) := by
    rw [hw3.out]
    exact below_setCells _ _ _ D2.out (Nat.le_refl _)
  clear hw3 Z0 Z1 D2 T2
  have T3 : Hid (w3.there (w.heap.size + 1) 0 mc.length) := A3.out.there (by rw [ML.out, List.length_append, zS_length]; omega)
  go_wp2_with (first | (refine wpList_load_mid rfl 104 (.tmp 2) rfl w.heap.size 0 rfl mc _ B3.out.all hu hr MI.out ?_) | (refine wp_store_eq rfl 104 (.tmp 4) (.tmp 10) rfl (w.heap.size + 1) 0 mc rfl rfl T3.out MI.out MO.out ?_))
  intro w5 hw5
  go_wp2_with fail
  refine bodyPost_ret (v := .agg mc.toArray) ?_ rfl ⟨rfl, ?_⟩
  · rw [hw5.out]
    exact results_cell (b := w.heap.size + 1) rfl rfl (World.rangeAt_setCells_same _ _ _ _ T3.out) hu hr MI.out
  · rw [hw5.out]
    exact below_setCells _ _ _ D3.out (by omega)
set_option maxRecDepth 20000 in
set_option maxHeartbeats 2000000 in
theorem msum_fun (K : List Nat) (lK : ∀ x ∈ K, x < 256) (p : List Nat) (lp : ∀ x ∈ p, x < 256) (w : World) (hT : KTab w) :
    Calls Tryd.prog 86 #[mV K p] w fun e w' => e = .returned (vB (markK K p)) ∧ Below w.heap.size w w' := by
  have S1 : Hid (∀ w, KTab w → Calls Tryd.prog 89 #[stV IV 0 (xb K 54 ++ p)] w fun e w' => e = .returned (vB (sumS (xb K 54 ++ p))) ∧ Below w.heap.size w w') := sum_fun IV 0 rfl (xb K 54 ++ p) (low_app (xb_low lK (by decide)) lp)
  have W1 : Hid _ := write_fun IV 0 rfl (xb K 92) (sumS (xb K 54 ++ p)) (xb_low lK (by decide)) (sumS_low _) (by rw [sumS_length]; decide)
  have S2 : Hid (∀ w, KTab w → Calls Tryd.prog 89 #[stV IV 0 (xb K 92 ++ sumS (xb K 54 ++ p))] w fun e w' => e = .returned (vB (markK K p)) ∧ Below w.heap.size w w') := sum_fun IV 0 rfl (xb K 92 ++ sumS (xb K 54 ++ p)) (low_app (xb_low lK (by decide)) (sumS_low _))
  have HT : Hid (KTab w) := hT
  have ME : Hid (mV K p = .agg (stC (xb K 54 ++ p) ++ stC (xb K 92)).toArray) := rfl
  rw [ME.out]
  rw [stV_eq] at S1 S2
  rw [stV_eq, stV_eq] at W1
  have I1 : Hid _ := info_state.trans (congrArg some (stC_length (xb K 54 ++ p)).symm)
  have I2 : Hid _ := info_state.trans (congrArg some (stC_length (xb K 92)).symm)
  have L1 : Hid _ := stC_length (xb K 54 ++ p)
  have SL : Hid _ := sumS_length (xb K 54 ++ p)
  have DI : Hid _ := info_d32.trans (congrArg some (show 32 = ((sumS (xb K 54 ++ p)).map b8).length by rw [List.length_map, sumS_length]))
  have DM : Hid _ := info_d32.trans (congrArg some (show 32 = ((markK K p).map b8).length by rw [List.length_map, markK_length]))
  have MK : Hid _ := markK_length K p
  generalize stC (xb K 92 ++ sumS (xb K 54 ++ p)) = s3 at *
  generalize stC (xb K 54 ++ p) = s1 at *
  generalize stC (xb K 92) = so at *
  generalize sumS (xb K 54 ++ p) = dd at *
  generalize markK K p = mk at *
  obtain ⟨ds, hu, hr⟩ := u_mst
  obtain ⟨d2, hu2, hr2⟩ := u_state'
  obtain ⟨x0, x1, x2⟩ := al2 w (s1 ++ so).toArray #[Value.int IntKind.u8 0, Value.int IntKind.u8 0, Value.int IntKind.u8 0, Value.int IntKind.u8 0, Value.int IntKind.u8 0, Value.int IntKind.u8 0, Value.int IntKind.u8 0, Value.int IntKind.u8 0, Value.int IntKind.u8 0, Value.int IntKind.u8 0, Value.int IntKind.u8 0, Value.int IntKind.u8 0, Value.int IntKind.u8 0, Value.int IntKind.u8 0, Value.int IntKind.u8 0, Value.int IntKind.u8 0, Value.int IntKind.u8 0, Value.int IntKind.u8 0, Value.int IntKind.u8 0, Value.int IntKind.u8 0, Value.int IntKind.u8 0, Value.int IntKind.u8 0, Value.int IntKind.u8 0, Value.int IntKind.u8 0, Value.int IntKind.u8 0, Value.int IntKind.u8 0, Value.int IntKind.u8 0, Value.int IntKind.u8 0, Value.int IntKind.u8 0, Value.int IntKind.u8 0, Value.int IntKind.u8 0, Value.int IntKind.u8 0] 104 109
  have Y0 : Hid (Blk _ _ (s1 ++ so)) := x0
  have Y1 : Hid (Blk _ _ ((List.replicate 32 0).map b8)) := x1
  have Y2 : Hid (Below _ _ _) := x2
  clear hT lK lp x0 x1 x2 ME
  go_enter Tryd.func86, Tryd.ntmps86
  have R0 : Hid (World.rangeAt ((w.alloc (.cells (s1 ++ so).toArray 104)).alloc (.cells #[Value.int IntKind.u8 0, Value.int IntKind.u8 0, Value.int IntKind.u8 0, Value.int IntKind.u8 0, Value.int IntKind.u8 0, Value.int IntKind.u8 0, Value.int IntKind.u8 0, Value.int IntKind.u8 0, Value.int IntKind.u8 0, Value.int IntKind.u8 0, Value.int IntKind.u8 0, Value.int IntKind.u8 0, Value.int IntKind.u8 0, Value.int IntKind.u8 0, Value.int IntKind.u8 0, Value.int IntKind.u8 0, Value.int IntKind.u8 0, Value.int IntKind.u8 0, Value.int IntKind.u8 0, Value.int IntKind.u8 0, Value.int IntKind.u8 0, Value.int IntKind.u8 0, Value.int IntKind.u8 0, Value.int IntKind.u8 0, Value.int IntKind.u8 0, Value.int IntKind.u8 0, Value.int IntKind.u8 0, Value.int IntKind.u8 0, Value.int IntKind.u8 0, Value.int IntKind.u8 0, Value.int IntKind.u8 0, Value.int IntKind.u8 0] 109)) w.heap.size 0 s1) := Blk.range (a := []) Y0.out rfl
  go_wp2_with (first | (refine wpList_load_mid rfl 102 (.tmp 4) rfl w.heap.size 0 rfl s1 _ R0.out hu2 hr2 I1.out ?_))
  generalize (w.alloc (.cells (s1 ++ so).toArray 104)).alloc (.cells #[Value.int IntKind.u8 0, Value.int IntKind.u8 0, Value.int IntKind.u8 0, Value.int IntKind.u8 0, Value.int IntKind.u8 0, Value.int IntKind.u8 0, Value.int IntKind.u8 0, Value.int IntKind.u8 0, Value.int IntKind.u8 0, Value.int IntKind.u8 0, Value.int IntKind.u8 0, Value.int IntKind.u8 0, Value.int IntKind.u8 0, Value.int IntKind.u8 0, Value.int IntKind.u8 0, Value.int IntKind.u8 0, Value.int IntKind.u8 0, Value.int IntKind.u8 0, Value.int IntKind.u8 0, Value.int IntKind.u8 0, Value.int IntKind.u8 0, Value.int IntKind.u8 0, Value.int IntKind.u8 0, Value.int IntKind.u8 0, Value.int IntKind.u8 0, Value.int IntKind.u8 0, Value.int IntKind.u8 0, Value.int IntKind.u8 0, Value.int IntKind.u8 0, Value.int IntKind.u8 0, Value.int IntKind.u8 0, Value.int IntKind.u8 0] 109) = w1 at *
  refine (S1.out w1 (HT.out.up Y2.out HT.out.pos)).mono ?_
  rintro e w2 ⟨rfl, h2⟩
  have D2 : Hid (Below w.heap.size w w2) := Y2.out.trans (h2.mono Y2.out.size)
  have Z0 : Hid (Blk w2 w.heap.size (s1 ++ so)) := Y0.out.up h2 Y0.out.lt
  have Z1 : Hid (Blk w2 (w.heap.size + 1) ((List.replicate 32 0).map b8)) := Y1.out.up h2 Y1.out.lt
  clear h2 Y0 Y1 Y2 R0 S1
  have T1 : Hid (∀ C t, C.size = 32 → World.there (w2.alloc (.cells C t)) w2.heap.size 0 (dd.map b8).length) := fun C t hC => (al1 w2 C t).1.there (by rw [List.length_map, SL.out, Array.length_toList, hC]; omega)
  go_wp2_with (refine wp_store_eq rfl 109 (.tmp 3) (.tmp 6) rfl w2.heap.size 0 (dd.map b8) rfl rfl (T1.out _ _ rfl) DI.out (one_b8 _) ?_)
  intro w3 hw3
  obtain ⟨b3, h3⟩ : Blk w3 w2.heap.size (dd.map b8) ∧ Below w2.heap.size w2 w3 := by
    rw [hw3.out]
    exact alst w2 _ _ _ (by rw [List.length_map, SL.out]; rfl)
  have D3 : Hid (Below w.heap.size w w3) := D2.out.trans (h3.mono D2.out.size)
  have A0 : Hid (Blk w3 w.heap.size (s1 ++ so)) := Z0.out.up h3 Z0.out.lt
  have A1 : Hid (Blk w3 (w.heap.size + 1) ((List.replicate 32 0).map b8)) := Z1.out.up h3 Z1.out.lt
  have A2 : Hid (Blk w3 w2.heap.size (dd.map b8)) := b3
  clear hw3 b3 h3 D2 Z0 Z1 T1
  generalize w2.heap.size = g at *
  have R1 : Hid (∀ W, Below w3.heap.size w3 W → W.rangeAt w.heap.size 73 so) := fun W hW => Blk.range (a := s1) (c := []) (by rw [List.append_nil]; exact A0.out.up hW A0.out.lt) L1.out.symm
  have SD : Hid (∀ W, _) := fun W => slice_all u_d32 info_u8 (by decide) g 0 W
  go_wp2_with fail
  refine wp_region_monoSE 5 [MP.eq (.pointer (some ⟨w.heap.size, 73, none⟩)), MP.eq (.agg so.toArray), MP.eq (.slice (some ⟨g, 0, none⟩) 32 32), MP.eq (.agg s3.toArray), MP.eq (vB mk)] (by kernel_rfl) (by kernel_rfl) rfl (by decide) (by kernel_rfl) ?_
  apply Exists.intro
  refine ⟨fun vals => ?_, ?_, fun vals4 w4 hb4 hF hO => ?_⟩
  · simp only [putsV, dstL, List.length_cons, List.length_nil, Nat.zero_add, Nat.reduceAdd, List.getElem?_cons_zero, List.getElem?_cons_succ, Option.bind_some, Act.put, List.setIfInBounds_toArray, List.set_cons_succ, List.set_cons_zero]
    rfl
  · refine ⟨?_, ?_, ?_, ?_, ?_, trivial⟩
    · intro vals W hW hw hd
      try simp [Region.binds] at hd
      refine ⟨by first | rfl | simp [Region.wanted, yielded, hd], ?_⟩
      simp [go_sem, hd]
      exact Below.refl _ _
    · intro vals W hW hw hd
      try simp [Region.binds] at hd
      refine ⟨by first | rfl | simp [Region.wanted, yielded, hd], ?_⟩
      exact yields_load 102 (.tmp 7) rfl w.heap.size 73 hd so _ (R1.out W hW.out) hu2 hr2 I2.out rfl
    · intro vals W hW hw hd
      try simp [Region.binds] at hd
      refine ⟨by first | rfl | simp [Region.wanted, yielded, hd], ?_⟩
      simp [go_sem, hd, SD.out W]
      exact Below.refl _ _
    · intro vals W hW hw hd
      try simp [Region.binds] at hd
      refine ⟨by first | rfl | simp [Region.wanted, yielded, hd], ?_⟩
      simp [go_sem, hd]
      exact (W1.out _ W (By.of_blk (A2.out.up hW.out A2.out.lt) SL.out) (HT.out.up (D3.out.trans (hW.out.mono D3.out.size)) HT.out.pos)).mono fun e w' ⟨he, hb⟩ => ⟨_, he, rfl, hb⟩
    · intro vals W hW hw hd
      try simp [Region.binds] at hd
      refine ⟨by first | rfl | simp [Region.wanted, yielded, hd], ?_⟩
      simp [go_sem, hd]
      exact (S2.out W (HT.out.up (D3.out.trans (hW.out.mono D3.out.size)) HT.out.pos)).mono fun e w' ⟨he, hb⟩ => ⟨_, he, rfl, hb⟩
  obtain ⟨f0, f1, f2, f3, f4, _⟩ := hF
  simp only [MP.eq_p] at f0 f1 f2 f3 f4
  rw [f0, f1, f2, f3, f4]
  simp only [List.drop_succ_cons, List.drop_zero]
  have E1 : Hid (Blk w4 (w.heap.size + 1) ((List.replicate 32 0).map b8)) := A1.out.up hb4.out A1.out.lt
  have D4 : Hid (Below w.heap.size w w4) := D3.out.trans (hb4.out.mono D3.out.size)
  clear f0 f1 f2 f3 f4 hb4 hO A0 A1 A2 D3 W1 S2 HT R1 SD
  have T4 : Hid (w4.there (w.heap.size + 1) 0 (mk.map b8).length) := E1.out.there (by rw [List.length_map, MK.out]; simp)
  go_wp2_with (refine wp_store_eq rfl 109 (.tmp 2) (.tmp 11) rfl (w.heap.size + 1) 0 (mk.map b8) rfl rfl T4.out DM.out (one_b8 _) ?_)
  intro w5 hw5
  go_wp2_with fail
  refine bodyPost_ret (v := vB mk) ?_ rfl ⟨rfl, ?_⟩
  · rw [hw5.out]
    exact results_cell (b := w.heap.size + 1) rfl rfl (World.rangeAt_setCells_same _ _ _ _ T4.out) u_d32 rfl DM.out
  · rw [hw5.out]
    exact below_setCells _ _ _ D4.out (by omega)
end Go.Proofs.YtdcpicbkemmakaaDoor
