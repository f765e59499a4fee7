import Derived.Test.YtfanndkhajokcaaDoorGrp18
import Derived.Test.YtfanndkhajokcaaDoorMFit
import Derived.Test.YtfanndkhajokcaaDoorGrp5
/- The contract of sealringref.Mark. -/
namespace Go.Proofs.YtfanndkhajokcaaDoor
open Go.RowKit
set_option linter.unusedSimpArgs false
theorem xb_take {K : List Nat} {k : Nat} (h : k < K.length) (b : Nat) : sOf (xb (K.take k) b) ++ sOf [K.getD k 0 ^^^ b] = sOf (xb (K.take (k + 1)) b) := by
  rw [sOf_append]
  congr 1
  rw [List.take_add_one, xb, xb, List.map_append]
  simp [List.getD_eq_getElem?_getD, h, -List.map_take]
theorem fit_at {K k : List Nat} (h : K = k ++ List.replicate (64 - k.length) 0) (j : Nat) : K.getD j 0 = if j < k.length then k.getD j 0 else 0 := by
  subst h
  simp only [List.getD_eq_getElem?_getD]
  split
  · rename_i h
    rw [List.getElem?_append_left h]
  · rename_i h
    rw [List.getElem?_append_right (by omega)]
    rcases Nat.lt_or_ge (j - k.length) (64 - k.length) with h1 | h1
    · simp [h1]
    · simp [List.getElem?_eq_none (by simp; omega : (List.replicate (64 - k.length) 0).length ≤ j - k.length)]
set_option maxRecDepth 20000 in
set_option maxHeartbeats 4000000 in
theorem rmark_fun (key p : List Nat) (lk : ∀ x ∈ key, x < 256) (zk : key.length ≤ 500000000000000) (lp : ∀ x ∈ p, x < 256) (zp : p.length ≤ 500000000000000) (w : World) (hT : RTab w) :
    Calls Tryd.prog 35 #[.string (sOf key), .string (sOf p)] w fun e w' => e = .returned (vB (markS key p)) ∧ Below w.heap.size w w' := by
  have LF : Hid _ := getD_low (fitS_low lk)
  have FL : Hid _ := fitS_length key
  have HT : Hid (RTab w) := hT
  have SK : Hid _ := rsum_fun key lk (by omega)
  have S1 : Hid _ := rsum_fun (xb (fitS key) 54 ++ p) (low_app (xb_low (fitS_low lk) (by decide)) lp) (by rw [List.length_append, xb_length, fitS_length]; omega)
  have S2 : Hid (∀ w, RTab w → Calls Tryd.prog 53 #[.string (sOf (xb (fitS key) 92 ++ sumS (xb (fitS key) 54 ++ p)))] w fun e w' => e = .returned (vB (markS key p)) ∧ Below w.heap.size w w') := rsum_fun (xb (fitS key) 92 ++ sumS (xb (fitS key) 54 ++ p)) (low_app (xb_low (fitS_low lk) (by decide)) (sumS_low _)) (by rw [List.length_append, xb_length, fitS_length, sumS_length]; omega)
  have SL : Hid _ := sumS_length key
  have SE : Hid _ := sumS_length (xb (fitS key) 54 ++ p)
  have MK : Hid ((markS key p).length = 32) := markK_length _ _
  have ID : Hid (∀ xs : List Nat, xs.length = 32 → (Tryd.prog.info? 47).map (·.size) = some (xs.map b8).length) := fun xs h => info_d32.trans (congrArg some (by rw [List.length_map, h]))
  have SD : Hid (∀ g W, _) := fun g W => slice_all u_d32 info_u8 (by decide) g 0 W
  have C1 : Hid _ := sOf_append (xb (fitS key) 54) p
  have C2 : Hid _ := sOf_append (xb (fitS key) 92) (sumS (xb (fitS key) 54 ++ p))
  have ZP : Hid ((sOf p).size ≤ 500000000000000) := by rw [sOf_size]; exact zp
  have sz : (sOf key).size = key.length := sOf_size key
  generalize markS key p = mk at *
  obtain ⟨x0, x1⟩ := al1 w #[Value.int IntKind.u8 0, Value.int IntKind.u8 0, Value.int IntKind.u8 0, Value.int IntKind.u8 0, Value.int IntKind.u8 0, Value.int IntKind.u8 0, Value.int IntKind.u8 0, Value.int IntKind.u8 0, Value.int IntKind.u8 0, Value.int IntKind.u8 0, Value.int IntKind.u8 0, Value.int IntKind.u8 0, Value.int IntKind.u8 0, Value.int IntKind.u8 0, Value.int IntKind.u8 0, Value.int IntKind.u8 0, Value.int IntKind.u8 0, Value.int IntKind.u8 0, Value.int IntKind.u8 0, Value.int IntKind.u8 0, Value.int IntKind.u8 0, Value.int IntKind.u8 0, Value.int IntKind.u8 0, Value.int IntKind.u8 0, Value.int IntKind.u8 0, Value.int IntKind.u8 0, Value.int IntKind.u8 0, Value.int IntKind.u8 0, Value.int IntKind.u8 0, Value.int IntKind.u8 0, Value.int IntKind.u8 0, Value.int IntKind.u8 0] 47
  have Y0 : Hid (Blk _ _ ((List.replicate 32 0).map b8)) := x0
  have Y1 : Hid (Below _ _ _) := x1
  clear hT lp zp x0 x1
  by_cases h64 : 64 < key.length
  · have i64 : (64 : Int) < (key.length : Int) := by omega
    have FE : Hid (fitS key = sumS key ++ List.replicate (64 - (sumS key).length) 0) := by rw [SL.out]; exact fitS_long h64
    have GK : Hid (∀ j h, ((sOf (sumS key))[j]'h).toNat = (sumS key).getD j 0) := sOf_get (sumS_low key)
    generalize sumS (xb (fitS key) 54 ++ p) = dd at *
    generalize fitS key = F at *
    clear lk
    go_enter Tryd.func35, Tryd.ntmps35
    go_wp2_with fail
    generalize w.alloc (Obj.cells #[Value.int IntKind.u8 0, Value.int IntKind.u8 0, Value.int IntKind.u8 0, Value.int IntKind.u8 0, Value.int IntKind.u8 0, Value.int IntKind.u8 0, Value.int IntKind.u8 0, Value.int IntKind.u8 0, Value.int IntKind.u8 0, Value.int IntKind.u8 0, Value.int IntKind.u8 0, Value.int IntKind.u8 0, Value.int IntKind.u8 0, Value.int IntKind.u8 0, Value.int IntKind.u8 0, Value.int IntKind.u8 0, Value.int IntKind.u8 0, Value.int IntKind.u8 0, Value.int IntKind.u8 0, Value.int IntKind.u8 0, Value.int IntKind.u8 0, Value.int IntKind.u8 0, Value.int IntKind.u8 0, Value.int IntKind.u8 0, Value.int IntKind.u8 0, Value.int IntKind.u8 0, Value.int IntKind.u8 0, Value.int IntKind.u8 0, Value.int IntKind.u8 0, Value.int IntKind.u8 0, Value.int IntKind.u8 0, Value.int IntKind.u8 0] 47) = w1 at *
    refine (SK.out w1 (HT.out.up Y1.out HT.out.pos)).mono ?_
    rintro e w2 ⟨rfl, h2⟩
    have D2 : Hid (Below w.heap.size w w2) := Y1.out.trans (h2.mono Y1.out.size)
    have Z0 : Hid (Blk w2 w.heap.size ((List.replicate 32 0).map b8)) := Y0.out.up h2 Y0.out.lt
    clear h2 Y0 Y1 SK sz i64 h64 zk
    have SK : Hid True := trivial
    generalize sOf key = ukey at *
    generalize sumS key = kk at *
    have sz : (sOf kk).size = kk.length := sOf_size kk
    have T1 : Hid (∀ C t, C.size = 32 → World.there (w2.alloc (.cells C t)) w2.heap.size 0 (kk.map b8).length) := fun C t hC => (al1 w2 C t).1.there (by rw [List.length_map, SL.out, Array.length_toList, hC]; omega)
    go_wp2_with (refine wp_store_eq rfl 47 (.tmp 5) (.tmp 15) rfl w2.heap.size 0 (kk.map b8) rfl rfl (T1.out _ _ rfl) (ID.out kk SL.out) (one_b8 _) ?_)
    intro w3 hw3
    obtain ⟨b3, h3⟩ : Blk w3 w2.heap.size (kk.map b8) ∧ Below w2.heap.size w2 w3 := by
      rw [hw3.out]
      exact alst w2 _ _ _ (by rw [List.length_map, SL.out]; rfl)
    have D3 : Hid (Below w.heap.size w w3) := D2.out.trans (h3.mono D2.out.size)
    have A0 : Hid (Blk w3 w.heap.size ((List.replicate 32 0).map b8)) := Z0.out.up h3 Z0.out.lt
    have A2 : Hid (By w3 (.slice (some ⟨w2.heap.size, 0, none⟩) 32 32) kk) := By.of_blk b3 SL.out
    clear hw3 b3 h3 D2 Z0 T1
    generalize w2.heap.size = g at *
    go_wp2_with (first | (simp only [SD.out]) | (refine wp_conv rfl (.tmp 16) rfl _ kk rfl A2.out ?_))
    clear A2
    go_loopw [6, 7, 18] (fun s t i wr => ∃ k : Nat, k ≤ 64 ∧ s = .string (sOf (xb (F.take k) 54)) ∧ t = .string (sOf (xb (F.take k) 92)) ∧ i = .int .i64 k ∧ Hid (Blk wr w.heap.size ((List.replicate 32 0).map b8)) ∧ Hid (Below w.heap.size w wr)) (fun _ _ i _ => 64 - (intOf i).toNat)
    case atStart => exact ⟨0, by omega, rfl, rfl, rfl, A0, D3⟩
    case round =>
      clear A0 D3
      obtain ⟨k, hk, rfl, rfl, rfl, r0, hb⟩ := hrel
      by_cases hlt : k < 64
      · have TA : Hid _ := xb_take (K := F) (k := k) (by rw [FL.out]; exact hlt) 54
        have TB : Hid _ := xb_take (K := F) (k := k) (by rw [FL.out]; exact hlt) 92
        have AT : Hid _ := fit_at FE.out k
        have LX := LF.out k
        have ta : (sOf (xb (F.take k) 54)).size = k := by rw [sOf_size, xb_length, List.length_take, FL.out]; omega
        have tb : (sOf (xb (F.take k) 92)).size = k := by rw [sOf_size, xb_length, List.length_take, FL.out]; omega
        have BY : Hid (∀ (xa : Nat) (W : World) (t : TypeId) (g : Nat), g = W.heap.size → By (W.alloc (.cells #[.int .u8 (xa : Int)] t)) (.slice (some ⟨g, 0, none⟩) 1 1) [xa]) := fun xa W t g hg => By.one ((cell_top hg).trans rfl)
        have XA : bits .xor .u8 ((F.getD k 0 : Nat) : Int) 54 = ((F.getD k 0 ^^^ 54 : Nat) : Int) := b_xor LX (by decide)
        have XB : bits .xor .u8 ((F.getD k 0 : Nat) : Int) 92 = ((F.getD k 0 ^^^ 92 : Nat) : Int) := b_xor LX (by decide)
        clear S1 S2 C1 C2 SK SE LX LF FL
        by_cases hin : k < kk.length
        · have j1 : (k : Int) < (kk.length : Int) := by omega
          have gk : ∀ h, ((sOf kk)[k]'h).toNat = F.getD k 0 := fun h => by rw [GK.out k h, AT.out, if_pos hin]
          generalize F.getD k 0 = x1 at *
          have sa : (sOf [x1 ^^^ 54]).size = 1 := by rw [sOf_size]; rfl
          have sb : (sOf [x1 ^^^ 92]).size = 1 := by rw [sOf_size]; rfl
          clear AT FE GK
          generalize sOf (xb (F.take k) 54) = ua at *
          generalize sOf (xb (F.take k) 92) = ub at *
          generalize sOf kk = uk at *
          go_wp2_with (first | (refine wp_conv rfl (.tmp 31) rfl _ [x1 ^^^ 54] rfl (BY.out (x1 ^^^ 54) _ _ _ (by simp)) ?_) | (refine wp_conv rfl (.tmp 37) rfl _ [x1 ^^^ 92] rfl (BY.out (x1 ^^^ 92) _ _ _ (by simp)) ?_))
          rw [TA.out, TB.out]
          go_roundw
          case rel => exact ⟨k + 1, by omega, rfl, rfl, by go_num, (r0.out.up (al1 _ _ _).2 r0.out.lt).up (al1 _ _ _).2 (Nat.lt_of_lt_of_le r0.out.lt (al1 _ _ _).2.size), (hb.out.alloc hb.out.size _).alloc (Nat.le_trans hb.out.size (al1 _ _ _).2.size) _⟩
          case measure => simp [intOf]; omega
        · have j1 : ¬ (k : Int) < (kk.length : Int) := by omega
          have x0 : F.getD k 0 = 0 := by rw [AT.out, if_neg hin]
          rw [x0] at TA TB XA XB
          have XA' : bits .xor .u8 0 54 = 54 := XA
          have XB' : bits .xor .u8 0 92 = 92 := XB
          rw [show (0 ^^^ 54 : Nat) = 54 by decide] at TA
          rw [show (0 ^^^ 92 : Nat) = 92 by decide] at TB
          have sa : (sOf [54]).size = 1 := by rw [sOf_size]; rfl
          have sb : (sOf [92]).size = 1 := by rw [sOf_size]; rfl
          clear AT FE GK XA XB x0
          generalize sOf (xb (F.take k) 54) = ua at *
          generalize sOf (xb (F.take k) 92) = ub at *
          generalize sOf kk = uk at *
          go_wp2_with (first | (refine wp_conv rfl (.tmp 31) rfl _ [54] rfl (BY.out (54) _ _ _ (by simp)) ?_) | (refine wp_conv rfl (.tmp 37) rfl _ [92] rfl (BY.out (92) _ _ _ (by simp)) ?_))
          rw [TA.out, TB.out]
          go_roundw
          case rel => exact ⟨k + 1, by omega, rfl, rfl, by go_num, (r0.out.up (al1 _ _ _).2 r0.out.lt).up (al1 _ _ _).2 (Nat.lt_of_lt_of_le r0.out.lt (al1 _ _ _).2.size), (hb.out.alloc hb.out.size _).alloc (Nat.le_trans hb.out.size (al1 _ _ _).2.size) _⟩
          case measure => simp [intOf]; omega
      · obtain rfl : k = 64 := by omega
        have TF : Hid (F.take 64 = F) := List.take_of_length_le (Nat.le_of_eq FL.out)
        rw [TF.out]
        clear hlt hk TF FE GK SK LF sz
        have f54 : (sOf (xb F 54)).size = 64 := by rw [sOf_size, xb_length, FL.out]
        have f92 : (sOf (xb F 92)).size = 64 := by rw [sOf_size, xb_length, FL.out]
        have zc : ¬ 9223372036854775807 < 64 + (sOf p).size := by have := ZP.out; omega
        have sd : (sOf dd).size = 32 := by rw [sOf_size, SE.out]
        clear ZP FL
        generalize sOf (xb F 54) = ua at *
        generalize sOf (xb F 92) = ub at *
        generalize sOf (xb F 54 ++ p) = ut at *
        generalize sOf (xb F 92 ++ dd) = uu at *
        generalize hpp : sOf p = pp at *
        clear hpp
        go_wp2_with fail
        rw [C1.out]
        refine (S1.out wr (HT.out.up hb.out HT.out.pos)).mono ?_
        rintro e w5 ⟨rfl, hb5⟩
        have D5 : Hid (Below w.heap.size w w5) := hb.out.trans (hb5.mono hb.out.size)
        have E5 : Hid (Blk w5 w.heap.size ((List.replicate 32 0).map b8)) := r0.out.up hb5 r0.out.lt
        clear hb5 hb r0 S1
        have T5 : Hid (∀ C t, C.size = 32 → World.there (w5.alloc (.cells C t)) w5.heap.size 0 (dd.map b8).length) := fun C t hC => (al1 w5 C t).1.there (by rw [List.length_map, SE.out, Array.length_toList, hC]; omega)
        go_wp2_with (refine wp_store_eq rfl 47 (.tmp 10) (.tmp 44) rfl w5.heap.size 0 (dd.map b8) rfl rfl (T5.out _ _ rfl) (ID.out dd SE.out) (one_b8 _) ?_)
        intro w6 hw6
        obtain ⟨b6, h6⟩ : Blk w6 w5.heap.size (dd.map b8) ∧ Below w5.heap.size w5 w6 := by
          rw [hw6.out]
          exact alst w5 _ _ _ (by rw [List.length_map, SE.out]; rfl)
        have D6 : Hid (Below w.heap.size w w6) := D5.out.trans (h6.mono D5.out.size)
        have E6 : Hid (Blk w6 w.heap.size ((List.replicate 32 0).map b8)) := E5.out.up h6 E5.out.lt
        have Y6 : Hid (By w6 (.slice (some ⟨w5.heap.size, 0, none⟩) 32 32) dd) := By.of_blk b6 SE.out
        clear hw6 b6 h6 D5 E5 T5
        generalize w5.heap.size = g5 at *
        go_wp2_with (first | (simp only [SD.out]) | (refine wp_conv rfl (.tmp 46) rfl _ dd rfl Y6.out ?_))
        rw [C2.out]
        refine (S2.out w6 (HT.out.up D6.out HT.out.pos)).mono ?_
        rintro e w7 ⟨rfl, hb7⟩
        have D7 : Hid (Below w.heap.size w w7) := D6.out.trans (hb7.mono D6.out.size)
        have E7 : Hid (Blk w7 w.heap.size ((List.replicate 32 0).map b8)) := E6.out.up hb7 E6.out.lt
        clear hb7 D6 E6 Y6 S2
        have T7 : Hid (w7.there w.heap.size 0 (mk.map b8).length) := E7.out.there (by rw [List.length_map, MK.out]; simp)
        go_wp2_with (refine wp_store_eq rfl 47 (.tmp 4) (.tmp 49) rfl w.heap.size 0 (mk.map b8) rfl rfl T7.out (ID.out mk MK.out) (one_b8 _) ?_)
        intro w8 hw8
        go_wp2_with fail
        refine bodyPost_ret (v := vB mk) ?_ rfl ⟨rfl, ?_⟩
        · rw [hw8.out]
          exact results_cell (b := w.heap.size) rfl rfl (World.rangeAt_setCells_same _ _ _ _ T7.out) u_d32 rfl (ID.out mk MK.out)
        · rw [hw8.out]
          exact below_setCells _ _ _ D7.out (Nat.le_refl _)
  · have i64 : ¬ (64 : Int) < (key.length : Int) := by omega
    have FE : Hid _ := fitS_short h64
    have GK : Hid (∀ j h, ((sOf key)[j]'h).toNat = key.getD j 0) := sOf_get lk
    generalize sumS (xb (fitS key) 54 ++ p) = dd at *
    generalize fitS key = F at *
    clear lk
    go_enter Tryd.func35, Tryd.ntmps35
    go_wp2_with fail
    generalize w.alloc (Obj.cells #[Value.int IntKind.u8 0, Value.int IntKind.u8 0, Value.int IntKind.u8 0, Value.int IntKind.u8 0, Value.int IntKind.u8 0, Value.int IntKind.u8 0, Value.int IntKind.u8 0, Value.int IntKind.u8 0, Value.int IntKind.u8 0, Value.int IntKind.u8 0, Value.int IntKind.u8 0, Value.int IntKind.u8 0, Value.int IntKind.u8 0, Value.int IntKind.u8 0, Value.int IntKind.u8 0, Value.int IntKind.u8 0, Value.int IntKind.u8 0, Value.int IntKind.u8 0, Value.int IntKind.u8 0, Value.int IntKind.u8 0, Value.int IntKind.u8 0, Value.int IntKind.u8 0, Value.int IntKind.u8 0, Value.int IntKind.u8 0, Value.int IntKind.u8 0, Value.int IntKind.u8 0, Value.int IntKind.u8 0, Value.int IntKind.u8 0, Value.int IntKind.u8 0, Value.int IntKind.u8 0, Value.int IntKind.u8 0, Value.int IntKind.u8 0] 47) = w1 at *
    go_loopw [6, 7, 18] (fun s t i wr => ∃ k : Nat, k ≤ 64 ∧ s = .string (sOf (xb (F.take k) 54)) ∧ t = .string (sOf (xb (F.take k) 92)) ∧ i = .int .i64 k ∧ Hid (Blk wr w.heap.size ((List.replicate 32 0).map b8)) ∧ Hid (Below w.heap.size w wr)) (fun _ _ i _ => 64 - (intOf i).toNat)
    case atStart => exact ⟨0, by omega, rfl, rfl, rfl, Y0, Y1⟩
    case round =>
      clear Y0 Y1
      obtain ⟨k, hk, rfl, rfl, rfl, r0, hb⟩ := hrel
      by_cases hlt : k < 64
      · have TA : Hid _ := xb_take (K := F) (k := k) (by rw [FL.out]; exact hlt) 54
        have TB : Hid _ := xb_take (K := F) (k := k) (by rw [FL.out]; exact hlt) 92
        have AT : Hid _ := fit_at FE.out k
        have LX := LF.out k
        have ta : (sOf (xb (F.take k) 54)).size = k := by rw [sOf_size, xb_length, List.length_take, FL.out]; omega
        have tb : (sOf (xb (F.take k) 92)).size = k := by rw [sOf_size, xb_length, List.length_take, FL.out]; omega
        have BY : Hid (∀ (xa : Nat) (W : World) (t : TypeId) (g : Nat), g = W.heap.size → By (W.alloc (.cells #[.int .u8 (xa : Int)] t)) (.slice (some ⟨g, 0, none⟩) 1 1) [xa]) := fun xa W t g hg => By.one ((cell_top hg).trans rfl)
        have XA : bits .xor .u8 ((F.getD k 0 : Nat) : Int) 54 = ((F.getD k 0 ^^^ 54 : Nat) : Int) := b_xor LX (by decide)
        have XB : bits .xor .u8 ((F.getD k 0 : Nat) : Int) 92 = ((F.getD k 0 ^^^ 92 : Nat) : Int) := b_xor LX (by decide)
        clear S1 S2 C1 C2 SK SE LX LF FL
        by_cases hin : k < key.length
        · have j1 : (k : Int) < (key.length : Int) := by omega
          have gk : ∀ h, ((sOf key)[k]'h).toNat = F.getD k 0 := fun h => by rw [GK.out k h, AT.out, if_pos hin]
          generalize F.getD k 0 = x1 at *
          have sa : (sOf [x1 ^^^ 54]).size = 1 := by rw [sOf_size]; rfl
          have sb : (sOf [x1 ^^^ 92]).size = 1 := by rw [sOf_size]; rfl
          clear AT FE GK
          generalize sOf (xb (F.take k) 54) = ua at *
          generalize sOf (xb (F.take k) 92) = ub at *
          generalize sOf key = uk at *
          go_wp2_with (first | (refine wp_conv rfl (.tmp 31) rfl _ [x1 ^^^ 54] rfl (BY.out (x1 ^^^ 54) _ _ _ (by simp)) ?_) | (refine wp_conv rfl (.tmp 37) rfl _ [x1 ^^^ 92] rfl (BY.out (x1 ^^^ 92) _ _ _ (by simp)) ?_))
          rw [TA.out, TB.out]
          go_roundw
          case rel => exact ⟨k + 1, by omega, rfl, rfl, by go_num, (r0.out.up (al1 _ _ _).2 r0.out.lt).up (al1 _ _ _).2 (Nat.lt_of_lt_of_le r0.out.lt (al1 _ _ _).2.size), (hb.out.alloc hb.out.size _).alloc (Nat.le_trans hb.out.size (al1 _ _ _).2.size) _⟩
          case measure => simp [intOf]; omega
        · have j1 : ¬ (k : Int) < (key.length : Int) := by omega
          have x0 : F.getD k 0 = 0 := by rw [AT.out, if_neg hin]
          rw [x0] at TA TB XA XB
          have XA' : bits .xor .u8 0 54 = 54 := XA
          have XB' : bits .xor .u8 0 92 = 92 := XB
          rw [show (0 ^^^ 54 : Nat) = 54 by decide] at TA
          rw [show (0 ^^^ 92 : Nat) = 92 by decide] at TB
          have sa : (sOf [54]).size = 1 := by rw [sOf_size]; rfl
          have sb : (sOf [92]).size = 1 := by rw [sOf_size]; rfl
          clear AT FE GK XA XB x0
          generalize sOf (xb (F.take k) 54) = ua at *
          generalize sOf (xb (F.take k) 92) = ub at *
          generalize sOf key = uk at *
          go_wp2_with (first | (refine wp_conv rfl (.tmp 31) rfl _ [54] rfl (BY.out (54) _ _ _ (by simp)) ?_) | (refine wp_conv rfl (.tmp 37) rfl _ [92] rfl (BY.out (92) _ _ _ (by simp)) ?_))
          rw [TA.out, TB.out]
          go_roundw
          case rel => exact ⟨k + 1, by omega, rfl, rfl, by go_num, (r0.out.up (al1 _ _ _).2 r0.out.lt).up (al1 _ _ _).2 (Nat.lt_of_lt_of_le r0.out.lt (al1 _ _ _).2.size), (hb.out.alloc hb.out.size _).alloc (Nat.le_trans hb.out.size (al1 _ _ _).2.size) _⟩
          case measure => simp [intOf]; omega
      · obtain rfl : k = 64 := by omega
        have TF : Hid (F.take 64 = F) := List.take_of_length_le (Nat.le_of_eq FL.out)
        rw [TF.out]
        clear hlt hk TF FE GK SK LF sz
        have f54 : (sOf (xb F 54)).size = 64 := by rw [sOf_size, xb_length, FL.out]
        have f92 : (sOf (xb F 92)).size = 64 := by rw [sOf_size, xb_length, FL.out]
        have zc : ¬ 9223372036854775807 < 64 + (sOf p).size := by have := ZP.out; omega
        have sd : (sOf dd).size = 32 := by rw [sOf_size, SE.out]
        clear ZP FL
        generalize sOf (xb F 54) = ua at *
        generalize sOf (xb F 92) = ub at *
        generalize sOf (xb F 54 ++ p) = ut at *
        generalize sOf (xb F 92 ++ dd) = uu at *
        generalize hpp : sOf p = pp at *
        clear hpp
        go_wp2_with fail
        rw [C1.out]
        refine (S1.out wr (HT.out.up hb.out HT.out.pos)).mono ?_
        rintro e w5 ⟨rfl, hb5⟩
        have D5 : Hid (Below w.heap.size w w5) := hb.out.trans (hb5.mono hb.out.size)
        have E5 : Hid (Blk w5 w.heap.size ((List.replicate 32 0).map b8)) := r0.out.up hb5 r0.out.lt
        clear hb5 hb r0 S1
        have T5 : Hid (∀ C t, C.size = 32 → World.there (w5.alloc (.cells C t)) w5.heap.size 0 (dd.map b8).length) := fun C t hC => (al1 w5 C t).1.there (by rw [List.length_map, SE.out, Array.length_toList, hC]; omega)
        go_wp2_with (refine wp_store_eq rfl 47 (.tmp 10) (.tmp 44) rfl w5.heap.size 0 (dd.map b8) rfl rfl (T5.out _ _ rfl) (ID.out dd SE.out) (one_b8 _) ?_)
        intro w6 hw6
        obtain ⟨b6, h6⟩ : Blk w6 w5.heap.size (dd.map b8) ∧ Below w5.heap.size w5 w6 := by
          rw [hw6.out]
          exact alst w5 _ _ _ (by rw [List.length_map, SE.out]; rfl)
        have D6 : Hid (Below w.heap.size w w6) := D5.out.trans (h6.mono D5.out.size)
        have E6 : Hid (Blk w6 w.heap.size ((List.replicate 32 0).map b8)) := E5.out.up h6 E5.out.lt
        have Y6 : Hid (By w6 (.slice (some ⟨w5.heap.size, 0, none⟩) 32 32) dd) := By.of_blk b6 SE.out
        clear hw6 b6 h6 D5 E5 T5
        generalize w5.heap.size = g5 at *
        go_wp2_with (first | (simp only [SD.out]) | (refine wp_conv rfl (.tmp 46) rfl _ dd rfl Y6.out ?_))
        rw [C2.out]
        refine (S2.out w6 (HT.out.up D6.out HT.out.pos)).mono ?_
        rintro e w7 ⟨rfl, hb7⟩
        have D7 : Hid (Below w.heap.size w w7) := D6.out.trans (hb7.mono D6.out.size)
        have E7 : Hid (Blk w7 w.heap.size ((List.replicate 32 0).map b8)) := E6.out.up hb7 E6.out.lt
        clear hb7 D6 E6 Y6 S2
        have T7 : Hid (w7.there w.heap.size 0 (mk.map b8).length) := E7.out.there (by rw [List.length_map, MK.out]; simp)
        go_wp2_with (refine wp_store_eq rfl 47 (.tmp 4) (.tmp 49) rfl w.heap.size 0 (mk.map b8) rfl rfl T7.out (ID.out mk MK.out) (one_b8 _) ?_)
        intro w8 hw8
        go_wp2_with fail
        refine bodyPost_ret (v := vB mk) ?_ rfl ⟨rfl, ?_⟩
        · rw [hw8.out]
          exact results_cell (b := w.heap.size) rfl rfl (World.rangeAt_setCells_same _ _ _ _ T7.out) u_d32 rfl (ID.out mk MK.out)
        · rw [hw8.out]
          exact below_setCells _ _ _ D7.out (Nat.le_refl _)
end Go.Proofs.YtfanndkhajokcaaDoor
