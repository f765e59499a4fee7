import Derived.Test.YtfanndkhajokcaaDoorGrp19
import Derived.Test.YtfanndkhajokcaaDoorGrp9
/- The contract of mac.begin: a digest's state behind the key, each byte xor one. -/
namespace Go.Proofs.YtfanndkhajokcaaDoor
open Go.RowKit
set_option linter.unusedSimpArgs false
attribute [local go_sem] YieldsP execOp
attribute [local simp] MP.eq_p
set_option maxRecDepth 20000 in
set_option maxHeartbeats 2000000 in
theorem mbegin_fun (K : List Nat) (hK : K.length = 64) (lK : ∀ x ∈ K, x < 256) (b : Nat) (hb : b < 256) (w : World) (hT : KTab w) :
    Calls Tryd.prog 57 #[vB K, b8 b] w fun e w' => e = .returned (stV IV 0 (xb K b)) ∧ Below w.heap.size w w' := by
  have W1 : Hid _ := write_fun IV 0 rfl [] (xb K b) (by simp) (xb_low lK hb) (by rw [xb_length, hK]; decide)
  rw [List.nil_append] at W1
  have LD : Hid _ := getD_low lK
  have XB : Hid (∀ k, bits .xor .u8 ((K.getD k 0 : Nat) : Int) (b : Int) = ((K.getD k 0 ^^^ b : Nat) : Int)) := fun k => b_xor (getD_low lK k) hb
  have XG : Hid (∀ k, k < 64 → (xK K b k)[k]? = some (K.getD k 0)) := fun k h => xK_get K b k (by omega)
  have XS : Hid (∀ k, k < 64 → (xK K b k).set k (K.getD k 0 ^^^ b) = xK K b (k + 1)) := fun k h => xK_set K b k (by omega)
  have XA : Hid _ := xK_all K b hK
  have XL : Hid (∀ k, (xK K b k).length = 64) := fun k => (xK_length K b k).trans hK
  have X0 : Hid _ := xK_zero K b
  have HT : Hid (KTab w) := hT
  obtain ⟨ds, hu, hr⟩ := u_state'
  have SV : Hid _ := stV_eq (xb K b)
  have SI : Hid _ := info_state.trans (congrArg some (stC_length (xb K b)).symm)
  have SL : Hid _ := stC_length (xb K b)
  have SO : Hid _ := one_stC (xb K b)
  have BL : Hid _ := (xb_length K b).trans hK
  rw [SV.out]
  rw [SV.out] at W1
  generalize stC (xb K b) = st at *
  obtain ⟨x0, x1, x2⟩ := al2 w (K.map b8).toArray zS.toArray 66 68
  have Y0 : Hid (Blk _ _ (K.map b8)) := x0
  have Y1 : Hid (Blk _ _ zS) := x1
  have Y2 : Hid (Below _ _ _) := x2
  rw [← X0.out] at Y0
  clear hT lK hb x0 x1 x2 SV X0 hK
  go_enter Tryd.func57, Tryd.ntmps57
  go_wp2_with (simp only [zero_state])
  go_loopw [6] (fun i wr => ∃ k : Nat, k ≤ 64 ∧ i = .int .i64 k ∧ Hid (Blk wr w.heap.size ((xK K b k).map b8)) ∧ Hid (Blk wr (w.heap.size + 1) zS) ∧ Hid (Below w.heap.size w wr)) (fun i _ => 64 - (intOf i).toNat)
  case atStart => exact ⟨0, by omega, rfl, Y0, Y1, Y2⟩
  case round =>
    clear Y0 Y1 Y2
    obtain ⟨k, hk, rfl, k0, k1, hd_⟩ := hrel
    by_cases hlt : k < 64
    · have c1 := k0.out.cell k (b8 (K.getD k 0)) (by rw [List.getElem?_map, XG.out k hlt]; rfl)
      have c2 := k0.out.fz k
      have XX : Hid _ := XB.out k
      have XT : Hid _ := XS.out k hlt
      generalize K.getD k 0 = x at *
      go_wp2_with fail
      rw [XX.out]
      have b1 := k0.out.set k (b8 (x ^^^ b)) (by rw [List.length_map, XL.out]; exact hlt)
      rw [← List.map_set, XT.out] at b1
      go_roundw
      case rel => exact ⟨k + 1, by omega, by go_num, b1, k1.out.apart1 (by omega), hd_.out.setCell (Nat.le_refl _) _⟩
      case measure => simp [intOf]; omega
    · obtain rfl : k = 64 := by omega
      rw [XA.out] at k0
      clear XG XS XL XB XA LD
      have SA : Hid (∀ W, _) := fun W => slice_all u_blk info_u8 (by decide) w.heap.size 0 W
      go_wp2_with fail
      refine wp_region_monoSE 3 [MP.eq (stV IV 0 []), MP.eq (.slice (some ⟨w.heap.size, 0, none⟩) 64 64), MP.eq (.agg st.toArray)] (by kernel_rfl) (by kernel_rfl) rfl (by decide) (by kernel_rfl) ?_
      apply Exists.intro
      refine ⟨fun vals => ?_, ?_, fun vals3 w3 hb3 hF hO => ?_⟩
      · simp only [putsV, dstL, List.length_cons, List.length_nil, Nat.zero_add, Nat.reduceAdd, List.getElem?_cons_zero, List.getElem?_cons_succ, Option.bind_some, Act.put, List.setIfInBounds_toArray, List.set_cons_succ, List.set_cons_zero]
        rfl
      · refine ⟨?_, ?_, ?_, trivial⟩
        · intro vals W hW hw hd
          try simp [Region.binds] at hd
          refine ⟨by first | rfl | simp [Region.wanted, yielded, hd], ?_⟩
          simp [go_sem, hd]
          exact (new_fun W).mono fun e w' ⟨he, hb⟩ => ⟨_, he, rfl, hb⟩
        · intro vals W hW hw hd
          try simp [Region.binds] at hd
          refine ⟨by first | rfl | simp [Region.wanted, yielded, hd], ?_⟩
          simp [go_sem, hd, SA.out W]
          exact Below.refl _ _
        · intro vals W hW hw hd
          try simp [Region.binds] at hd
          refine ⟨by first | rfl | simp [Region.wanted, yielded, hd], ?_⟩
          simp [go_sem, hd]
          exact (W1.out _ W (By.of_blk (k0.out.up hW.out k0.out.lt) BL.out) (HT.out.up (hd_.out.trans (hW.out.mono hd_.out.size)) HT.out.pos)).mono fun e w' ⟨he, hb⟩ => ⟨_, he, rfl, hb⟩
      obtain ⟨f0, f1, f2, _⟩ := hF
      simp only [MP.eq_p] at f0 f1 f2
      rw [f0, f1, f2]
      simp only [List.drop_succ_cons, List.drop_zero]
      have Y1 : Hid (Blk w3 (w.heap.size + 1) zS) := k1.out.up hb3.out k1.out.lt
      have D3 : Hid (Below w.heap.size w w3) := hd_.out.trans (hb3.out.mono hd_.out.size)
      clear f0 f1 f2 hb3 hO k0 k1 hd_ W1 HT SA
      have T1 : Hid (w3.there (w.heap.size + 1) 0 st.length) := Y1.out.there (by rw [SL.out, zS_length]; omega)
      go_wp2_with (refine wp_store_eq rfl 68 (.tmp 4) (.tmp 18) rfl (w.heap.size + 1) 0 st rfl rfl T1.out SI.out SO.out ?_)
      intro w5 hw5
      go_wp2_with fail
      refine bodyPost_ret (v := .agg st.toArray) ?_ rfl ⟨rfl, ?_⟩
      · rw [hw5.out]
        exact results_cell (b := w.heap.size + 1) rfl rfl (World.rangeAt_setCells_same _ _ _ _ T1.out) hu hr SI.out
      · rw [hw5.out]
        exact below_setCells _ _ _ D3.out (by omega)
end Go.Proofs.YtfanndkhajokcaaDoor
