/- Texts that were joined: RMark, RDraw, DrawC. -/
import Derived.Test.YtdcpicbkemmakaaDoorQHHashToMacM
import Derived.Test.YtdcpicbkemmakaaDoorQMFit
import Derived.Test.YtdcpicbkemmakaaDoorQBsMkToHRd
/- The contract of sealringref.Mark. -/
namespace Go.Proofs.YtdcpicbkemmakaaDoor
open Go.RowKit
set_option linter.unusedSimpArgs false
theorem xb_take {K : List Nat} {k : Nat} (h : k < K.length) (b : Nat) : sOf (xb (K.take k) b) ++ sOf [K.getD k 0 ^^^ b] = sOf (xb (K.take (k + 1)) b) := by
  rw [sOf_append]
  congr 1
  rw [List.take_add_one, xb, xb, List.map_append]
  simp [List.getD_eq_getElem?_getD, h, -List.map_take]
theorem fit_at {K k : List Nat} (h : K = k ++ List.replicate (64 - k.length) 0) (j : Nat) : K.getD j 0 = if j < k.length then k.getD j 0 else 0 := by
  subst h
  simp only [List.getD_eq_getElem?_getD]
  split
  · rename_i h
    rw [List.getElem?_append_left h]
  · rename_i h
    rw [List.getElem?_append_right (by omega)]
    rcases Nat.lt_or_ge (j - k.length) (64 - k.length) with h1 | h1
    · simp [h1]
    · simp [List.getElem?_eq_none (by simp; omega : (List.replicate (64 - k.length) 0).length ≤ j - k.length)]
set_option maxRecDepth 20000 in
set_option maxHeartbeats 4000000 in
theorem rmark_fun (key p : List Nat) (lk : ∀ x ∈ key, x < 256) (zk : key.length ≤ 500000000000000) (lp : ∀ x ∈ p, x < 256) (zp : p.length ≤ 500000000000000) (w : World) (hT : RTab w) :
    Calls Tryd.prog 72 #[.string (sOf key), .string (sOf p)] w fun e w' => e = .returned (vB (markS key p)) ∧ Below w.heap.size w w' := by
  have LF : Hid _ := getD_low (fitS_low lk)
  have FL : Hid _ := fitS_length key
  have HT : Hid (RTab w) := hT
  have SK : Hid _ := rsum_fun key lk (by omega)
  have S1 : Hid _ := rsum_fun (xb (fitS key) 54 ++ p) (low_app (xb_low (fitS_low lk) (by decide)) lp) (by rw [List.length_append, xb_length, fitS_length]; omega)
  have S2 : Hid (∀ w, RTab w → Calls Tryd.prog 79 #[.string (sOf (xb (fitS key) 92 ++ sumS (xb (fitS key) 54 ++ p)))] w fun e w' => e = .returned (vB (markS key p)) ∧ Below w.heap.size w w') := rsum_fun (xb (fitS key) 92 ++ sumS (xb (fitS key) 54 ++ p)) (low_app (xb_low (fitS_low lk) (by decide)) (sumS_low _)) (by rw [List.length_append, xb_length, fitS_length, sumS_length]; omega)
  have SL : Hid _ := sumS_length key
  have SE : Hid _ := sumS_length (xb (fitS key) 54 ++ p)
  have MK : Hid ((markS key p).length = 32) := markK_length _ _
  have ID : Hid (∀ xs : List Nat, xs.length = 32 → (Tryd.prog.info? 109).map (·.size) = some (xs.map b8).length) := fun xs h => info_d32.trans (congrArg some (by rw [List.length_map, h]))
  have SD : Hid (∀ g W, _) := fun g W => slice_all u_d32 info_u8 (by decide) g 0 W
  have C1 : Hid _ := sOf_append (xb (fitS key) 54) p
  have C2 : Hid _ := sOf_append (xb (fitS key) 92) (sumS (xb (fitS key) 54 ++ p))
  have ZP : Hid ((sOf p).size ≤ 500000000000000) := by rw [sOf_size]; exact zp
  have sz : (sOf key).size = key.length := sOf_size key
  generalize markS key p = mk at *
  obtain ⟨x0, x1⟩ := al1 w #[Value.int IntKind.u8 0, Value.int IntKind.u8 0, Value.int IntKind.u8 0, Value.int IntKind.u8 0, Value.int IntKind.u8 0, Value.int IntKind.u8 0, Value.int IntKind.u8 0, Value.int IntKind.u8 0, Value.int IntKind.u8 0, Value.int IntKind.u8 0, Value.int IntKind.u8 0, Value.int IntKind.u8 0, Value.int IntKind.u8 0, Value.int IntKind.u8 0, Value.int IntKind.u8 0, Value.int IntKind.u8 0, Value.int IntKind.u8 0, Value.int IntKind.u8 0, Value.int IntKind.u8 0, Value.int IntKind.u8 0, Value.int IntKind.u8 0, Value.int IntKind.u8 0, Value.int IntKind.u8 0, Value.int IntKind.u8 0, Value.int IntKind.u8 0, Value.int IntKind.u8 0, Value.int IntKind.u8 0, Value.int IntKind.u8 0, Value.int IntKind.u8 0, Value.int IntKind.u8 0, Value.int IntKind.u8 0, Value.int IntKind.u8 0] 109
  have Y0 : Hid (Blk _ _ ((List.replicate 32 0).map b8)) := x0
  have Y1 : Hid (Below _ _ _) := x1
  clear hT lp zp x0 x1
  by_cases h64 : 64 < key.length
  · have i64 : (64 : Int) < (key.length : Int) := by omega
    have FE : Hid (fitS key = sumS key ++ List.replicate (64 - (sumS key).length) 0) := by rw [SL.out]; exact fitS_long h64
    have GK : Hid (∀ j h, ((sOf (sumS key))[j]'h).toNat = (sumS key).getD j 0) := sOf_get (sumS_low key)
    generalize sumS (xb (fitS key) 54 ++ p) = dd at *
    generalize fitS key = F at *
    clear lk
    go_enter Tryd.func72, Tryd.ntmps72
    go_wp2_with fail
    generalize w.alloc (Obj.cells #[Value.int IntKind.u8 0, Value.int IntKind.u8 0, Value.int IntKind.u8 0, Value.int IntKind.u8 0, Value.int IntKind.u8 0, Value.int IntKind.u8 0, Value.int IntKind.u8 0, Value.int IntKind.u8 0, Value.int IntKind.u8 0, Value.int IntKind.u8 0, Value.int IntKind.u8 0, Value.int IntKind.u8 0, Value.int IntKind.u8 0, Value.int IntKind.u8 0, Value.int IntKind.u8 0, Value.int IntKind.u8 0, Value.int IntKind.u8 0, Value.int IntKind.u8 0, Value.int IntKind.u8 0, Value.int IntKind.u8 0, Value.int IntKind.u8 0, Value.int IntKind.u8 0, Value.int IntKind.u8 0, Value.int IntKind.u8 0, Value.int IntKind.u8 0, Value.int IntKind.u8 0, Value.int IntKind.u8 0, Value.int IntKind.u8 0, Value.int IntKind.u8 0, Value.int IntKind.u8 0, Value.int IntKind.u8 0, Value.int IntKind.u8 0] 109) = w1 at *
    refine (SK.out w1 (HT.out.up Y1.out HT.out.pos)).mono ?_
    rintro e w2 ⟨rfl, h2⟩
    have D2 : Hid (Below w.heap.size w w2) := Y1.out.trans (h2.mono Y1.out.size)
    have Z0 : Hid (Blk w2 w.heap.size ((List.replicate 32 0).map b8)) := Y0.out.up h2 Y0.out.lt
    clear h2 Y0 Y1 SK sz i64 h64 zk
    have SK : Hid True := trivial
    generalize sOf key = ukey at *
    generalize sumS key = kk at *
    have sz : (sOf kk).size = kk.length := sOf_size kk
    have T1 : Hid (∀ C t, C.size = 32 → World.there (w2.alloc (.cells C t)) w2.heap.size 0 (kk.map b8).length) := fun C t hC => (al1 w2 C t).1.there (by rw [List.length_map, SL.out, Array.length_toList, hC]; omega)
    go_wp2_with (refine wp_store_eq rfl 109 (.tmp 5) (.tmp 15) rfl w2.heap.size 0 (kk.map b8) rfl rfl (T1.out _ _ rfl) (ID.out kk SL.out) (one_b8 _) ?_)
    intro w3 hw3
    obtain ⟨b3, h3⟩ : Blk w3 w2.heap.size (kk.map b8) ∧ Below w2.heap.size w2 w3 := by
      rw [hw3.out]
      exact alst w2 _ _ _ (by rw [List.length_map, SL.out]; rfl)
    have D3 : Hid (Below w.heap.size w w3) := D2.out.trans (h3.mono D2.out.size)
    have A0 : Hid (Blk w3 w.heap.size ((List.replicate 32 0).map b8)) := Z0.out.up h3 Z0.out.lt
    have A2 : Hid (By w3 (.slice (some ⟨w2.heap.size, 0, none⟩) 32 32) kk) := By.of_blk b3 SL.out
    clear hw3 b3 h3 D2 Z0 T1
    generalize w2.heap.size = g at *
    go_wp2_with (first | (simp only [SD.out]) | (refine wp_conv rfl (.tmp 16) rfl _ kk rfl A2.out ?_))
    clear A2
    go_loopw [6, 7, 18] (fun s t i wr => ∃ k : Nat, k ≤ 64 ∧ s = .string (sOf (xb (F.take k) 54)) ∧ t = .string (sOf (xb (F.take k) 92)) ∧ i = .int .i64 k ∧ Hid (Blk wr w.heap.size ((List.replicate 32 0).map b8)) ∧ Hid (Below w.heap.size w wr)) (fun _ _ i _ => 64 - (intOf i).toNat)
    case atStart => exact ⟨0, by omega, rfl, rfl, rfl, A0, D3⟩
    case round =>
      clear A0 D3
      obtain ⟨k, hk, rfl, rfl, rfl, r0, hb⟩ := hrel
      by_cases hlt : k < 64
      · have TA : Hid _ := xb_take (K := F) (k := k) (by rw [FL.out]; exact hlt) 54
        have TB : Hid _ := xb_take (K := F) (k := k) (by rw [FL.out]; exact hlt) 92
        have AT : Hid _ := fit_at FE.out k
        have LX := LF.out k
        have ta : (sOf (xb (F.take k) 54)).size = k := by rw [sOf_size, xb_length, List.length_take, FL.out]; omega
        have tb : (sOf (xb (F.take k) 92)).size = k := by rw [sOf_size, xb_length, List.length_take, FL.out]; omega
        have BY : Hid (∀ (xa : Nat) (W : World) (t : TypeId) (g : Nat), g = W.heap.size → By (W.alloc (.cells #[.int .u8 (xa : Int)] t)) (.slice (some ⟨g, 0, none⟩) 1 1) [xa]) := fun xa W t g hg => By.one ((cell_top hg).trans rfl)
        have XA : bits .xor .u8 ((F.getD k 0 : Nat) : Int) 54 = ((F.getD k 0 ^^^ 54 : Nat) : Int) := b_xor LX (by decide)
        have XB : bits .xor .u8 ((F.getD k 0 : Nat) : Int) 92 = ((F.getD k 0 ^^^ 92 : Nat) : Int) := b_xor LX (by decide)
        clear S1 S2 C1 C2 SK SE LX LF FL
        by_cases hin : k < kk.length
        · have j1 : (k : Int) < (kk.length : Int) := by omega
          have gk : ∀ h, ((sOf kk)[k]'h).toNat = F.getD k 0 := fun h => by rw [GK.out k h, AT.out, if_pos hin]
          generalize F.getD k 0 = x1 at *
          have sa : (sOf [x1 ^^^ 54]).size = 1 := by rw [sOf_size]; rfl
          have sb : (sOf [x1 ^^^ 92]).size = 1 := by rw [sOf_size]; rfl
          clear AT FE GK
          generalize sOf (xb (F.take k) 54) = ua at *
          generalize sOf (xb (F.take k) 92) = ub at *
          generalize sOf kk = uk at *
          go_wp2_with (first | (refine wp_conv rfl (.tmp 31) rfl _ [x1 ^^^ 54] rfl (BY.out (x1 ^^^ 54) _ _ _ (by simp)) ?_) | (refine wp_conv rfl (.tmp 37) rfl _ [x1 ^^^ 92] rfl (BY.out (x1 ^^^ 92) _ _ _ (by simp)) ?_))
          rw [TA.out, TB.out]
          go_roundw
          case rel => exact ⟨k + 1, by omega, rfl, rfl, by go_num, (r0.out.up (al1 _ _ _).2 r0.out.lt).up (al1 _ _ _).2 (Nat.lt_of_lt_of_le r0.out.lt (al1 _ _ _).2.size), (hb.out.alloc hb.out.size _).alloc (Nat.le_trans hb.out.size (al1 _ _ _).2.size) _⟩
          case measure => simp [intOf]; omega
        · have j1 : ¬ (k : Int) < (kk.length : Int) := by omega
          have x0 : F.getD k 0 = 0 := by rw [AT.out, if_neg hin]
          rw [x0] at TA TB XA XB
          have XA' : bits .xor .u8 0 54 = 54 := XA
          have XB' : bits .xor .u8 0 92 = 92 := XB
          rw [show (0 ^^^ 54 : Nat) = 54 by decide] at TA
          rw [show (0 ^^^ 92 : Nat) = 92 by decide] at TB
          have sa : (sOf [54]).size = 1 := by rw [sOf_size]; rfl
          have sb : (sOf [92]).size = 1 := by rw [sOf_size]; rfl
          clear AT FE GK XA XB x0
          generalize sOf (xb (F.take k) 54) = ua at *
          generalize sOf (xb (F.take k) 92) = ub at *
          generalize sOf kk = uk at *
          go_wp2_with (first | (refine wp_conv rfl (.tmp 31) rfl _ [54] rfl (BY.out (54) _ _ _ (by simp)) ?_) | (refine wp_conv rfl (.tmp 37) rfl _ [92] rfl (BY.out (92) _ _ _ (by simp)) ?_))
          rw [TA.out, TB.out]
          go_roundw
          case rel => exact ⟨k + 1, by omega, rfl, rfl, by go_num, (r0.out.up (al1 _ _ _).2 r0.out.lt).up (al1 _ _ _).2 (Nat.lt_of_lt_of_le r0.out.lt (al1 _ _ _).2.size), (hb.out.alloc hb.out.size _).alloc (Nat.le_trans hb.out.size (al1 _ _ _).2.size) _⟩
          case measure => simp [intOf]; omega
      · obtain rfl : k = 64 := by omega
        have TF : Hid (F.take 64 = F) := List.take_of_length_le (Nat.le_of_eq FL.out)
        rw [TF.out]
        clear hlt hk TF FE GK SK LF sz
        have f54 : (sOf (xb F 54)).size = 64 := by rw [sOf_size, xb_length, FL.out]
        have f92 : (sOf (xb F 92)).size = 64 := by rw [sOf_size, xb_length, FL.out]
        have zc : ¬ 9223372036854775807 < 64 + (sOf p).size := by have := ZP.out; omega
        have sd : (sOf dd).size = 32 := by rw [sOf_size, SE.out]
        clear ZP FL
        generalize sOf (xb F 54) = ua at *
        generalize sOf (xb F 92) = ub at *
        generalize sOf (xb F 54 ++ p) = ut at *
        generalize sOf (xb F 92 ++ dd) = uu at *
        generalize hpp : sOf p = pp at *
        clear hpp
        go_wp2_with fail
        rw [C1.out]
        refine (S1.out wr (HT.out.up hb.out HT.out.pos)).mono ?_
        rintro e w5 ⟨rfl, hb5⟩
        have D5 : Hid (Below w.heap.size w w5) := hb.out.trans (hb5.mono hb.out.size)
        have E5 : Hid (Blk w5 w.heap.size ((List.replicate 32 0).map b8)) := r0.out.up hb5 r0.out.lt
        clear hb5 hb r0 S1
        have T5 : Hid (∀ C t, C.size = 32 → World.there (w5.alloc (.cells C t)) w5.heap.size 0 (dd.map b8).length) := fun C t hC => (al1 w5 C t).1.there (by rw [List.length_map, SE.out, Array.length_toList, hC]; omega)
        go_wp2_with (refine wp_store_eq rfl 109 (.tmp 10) (.tmp 44) rfl w5.heap.size 0 (dd.map b8) rfl rfl (T5.out _ _ rfl) (ID.out dd SE.out) (one_b8 _) ?_)
        intro w6 hw6
        obtain ⟨b6, h6⟩ : Blk w6 w5.heap.size (dd.map b8) ∧ Below w5.heap.size w5 w6 := by
          rw [hw6.out]
          exact alst w5 _ _ _ (by rw [List.length_map, SE.out]; rfl)
        have D6 : Hid (Below w.heap.size w w6) := D5.out.trans (h6.mono D5.out.size)
        have E6 : Hid (Blk w6 w.heap.size ((List.replicate 32 0).map b8)) := E5.out.up h6 E5.out.lt
        have Y6 : Hid (By w6 (.slice (some ⟨w5.heap.size, 0, none⟩) 32 32) dd) := By.of_blk b6 SE.out
        clear hw6 b6 h6 D5 E5 T5
        generalize w5.heap.size = g5 at *
        go_wp2_with (first | (simp only [SD.out]) | (refine wp_conv rfl (.tmp 46) rfl _ dd rfl Y6.out ?_))
        rw [C2.out]
        refine (S2.out w6 (HT.out.up D6.out HT.out.pos)).mono ?_
        rintro e w7 ⟨rfl, hb7⟩
        have D7 : Hid (Below w.heap.size w w7) := D6.out.trans (hb7.mono D6.out.size)
        have E7 : Hid (Blk w7 w.heap.size ((List.replicate 32 0).map b8)) := E6.out.up hb7 E6.out.lt
        clear hb7 D6 E6 Y6 S2
        have T7 : Hid (w7.there w.heap.size 0 (mk.map b8).length) := E7.out.there (by rw [List.length_map, MK.out]; simp)
        go_wp2_with (refine wp_store_eq rfl 109 (.tmp 4) (.tmp 49) rfl w.heap.size 0 (mk.map b8) rfl rfl T7.out (ID.out mk MK.out) (one_b8 _) ?_)
        intro w8 hw8
        go_wp2_with fail
        refine bodyPost_ret (v := vB mk) ?_ rfl ⟨rfl, ?_⟩
        · rw [hw8.out]
          exact results_cell (b := w.heap.size) rfl rfl (World.rangeAt_setCells_same _ _ _ _ T7.out) u_d32 rfl (ID.out mk MK.out)
        · rw [hw8.out]
          exact below_setCells _ _ _ D7.out (Nat.le_refl _)
  · have i64 : ¬ (64 : Int) < (key.length : Int) := by omega
    have FE : Hid _ := fitS_short h64
    have GK : Hid (∀ j h, ((sOf key)[j]'h).toNat = key.getD j 0) := sOf_get lk
    generalize sumS (xb (fitS key) 54 ++ p) = dd at *
    generalize fitS key = F at *
    clear lk
    go_enter Tryd.func72, Tryd.ntmps72
    go_wp2_with fail
    generalize w.alloc (Obj.cells #[Value.int IntKind.u8 0, Value.int IntKind.u8 0, Value.int IntKind.u8 0, Value.int IntKind.u8 0, Value.int IntKind.u8 0, Value.int IntKind.u8 0, Value.int IntKind.u8 0, Value.int IntKind.u8 0, Value.int IntKind.u8 0, Value.int IntKind.u8 0, Value.int IntKind.u8 0, Value.int IntKind.u8 0, Value.int IntKind.u8 0, Value.int IntKind.u8 0, Value.int IntKind.u8 0, Value.int IntKind.u8 0, Value.int IntKind.u8 0, Value.int IntKind.u8 0, Value.int IntKind.u8 0, Value.int IntKind.u8 0, Value.int IntKind.u8 0, Value.int IntKind.u8 0, Value.int IntKind.u8 0, Value.int IntKind.u8 0, Value.int IntKind.u8 0, Value.int IntKind.u8 0, Value.int IntKind.u8 0, Value.int IntKind.u8 0, Value.int IntKind.u8 0, Value.int IntKind.u8 0, Value.int IntKind.u8 0, Value.int IntKind.u8 0] 109) = w1 at *
    go_loopw [6, 7, 18] (fun s t i wr => ∃ k : Nat, k ≤ 64 ∧ s = .string (sOf (xb (F.take k) 54)) ∧ t = .string (sOf (xb (F.take k) 92)) ∧ i = .int .i64 k ∧ Hid (Blk wr w.heap.size ((List.replicate 32 0).map b8)) ∧ Hid (Below w.heap.size w wr)) (fun _ _ i _ => 64 - (intOf i).toNat)
    case atStart => exact ⟨0, by omega, rfl, rfl, rfl, Y0, Y1⟩
    case round =>
      clear Y0 Y1
      obtain ⟨k, hk, rfl, rfl, rfl, r0, hb⟩ := hrel
      by_cases hlt : k < 64
      · have TA : Hid _ := xb_take (K := F) (k := k) (by rw [FL.out]; exact hlt) 54
        have TB : Hid _ := xb_take (K := F) (k := k) (by rw [FL.out]; exact hlt) 92
        have AT : Hid _ := fit_at FE.out k
        have LX := LF.out k
        have ta : (sOf (xb (F.take k) 54)).size = k := by rw [sOf_size, xb_length, List.length_take, FL.out]; omega
        have tb : (sOf (xb (F.take k) 92)).size = k := by rw [sOf_size, xb_length, List.length_take, FL.out]; omega
        have BY : Hid (∀ (xa : Nat) (W : World) (t : TypeId) (g : Nat), g = W.heap.size → By (W.alloc (.cells #[.int .u8 (xa : Int)] t)) (.slice (some ⟨g, 0, none⟩) 1 1) [xa]) := fun xa W t g hg => By.one ((cell_top hg).trans rfl)
        have XA : bits .xor .u8 ((F.getD k 0 : Nat) : Int) 54 = ((F.getD k 0 ^^^ 54 : Nat) : Int) := b_xor LX (by decide)
        have XB : bits .xor .u8 ((F.getD k 0 : Nat) : Int) 92 = ((F.getD k 0 ^^^ 92 : Nat) : Int) := b_xor LX (by decide)
        clear S1 S2 C1 C2 SK SE LX LF FL
        by_cases hin : k < key.length
        · have j1 : (k : Int) < (key.length : Int) := by omega
          have gk : ∀ h, ((sOf key)[k]'h).toNat = F.getD k 0 := fun h => by rw [GK.out k h, AT.out, if_pos hin]
          generalize F.getD k 0 = x1 at *
          have sa : (sOf [x1 ^^^ 54]).size = 1 := by rw [sOf_size]; rfl
          have sb : (sOf [x1 ^^^ 92]).size = 1 := by rw [sOf_size]; rfl
          clear AT FE GK
          generalize sOf (xb (F.take k) 54) = ua at *
          generalize sOf (xb (F.take k) 92) = ub at *
          generalize sOf key = uk at *
          go_wp2_with (first | (refine wp_conv rfl (.tmp 31) rfl _ [x1 ^^^ 54] rfl (BY.out (x1 ^^^ 54) _ _ _ (by simp)) ?_) | (refine wp_conv rfl (.tmp 37) rfl _ [x1 ^^^ 92] rfl (BY.out (x1 ^^^ 92) _ _ _ (by simp)) ?_))
          rw [TA.out, TB.out]
          go_roundw
          case rel => exact ⟨k + 1, by omega, rfl, rfl, by go_num, (r0.out.up (al1 _ _ _).2 r0.out.lt).up (al1 _ _ _).2 (Nat.lt_of_lt_of_le r0.out.lt (al1 _ _ _).2.size), (hb.out.alloc hb.out.size _).alloc (Nat.le_trans hb.out.size (al1 _ _ _).2.size) _⟩
          case measure => simp [intOf]; omega
        · have j1 : ¬ (k : Int) < (key.length : Int) := by omega
          have x0 : F.getD k 0 = 0 := by rw [AT.out, if_neg hin]
          rw [x0] at TA TB XA XB
          have XA' : bits .xor .u8 0 54 = 54 := XA
          have XB' : bits .xor .u8 0 92 = 92 := XB
          rw [show (0 ^^^ 54 : Nat) = 54 by decide] at TA
          rw [show (0 ^^^ 92 : Nat) = 92 by decide] at TB
          have sa : (sOf [54]).size = 1 := by rw [sOf_size]; rfl
          have sb : (sOf [92]).size = 1 := by rw [sOf_size]; rfl
          clear AT FE GK XA XB x0
          generalize sOf (xb (F.take k) 54) = ua at *
          generalize sOf (xb (F.take k) 92) = ub at *
          generalize sOf key = uk at *
          go_wp2_with (first | (refine wp_conv rfl (.tmp 31) rfl _ [54] rfl (BY.out (54) _ _ _ (by simp)) ?_) | (refine wp_conv rfl (.tmp 37) rfl _ [92] rfl (BY.out (92) _ _ _ (by simp)) ?_))
          rw [TA.out, TB.out]
          go_roundw
          case rel => exact ⟨k + 1, by omega, rfl, rfl, by go_num, (r0.out.up (al1 _ _ _).2 r0.out.lt).up (al1 _ _ _).2 (Nat.lt_of_lt_of_le r0.out.lt (al1 _ _ _).2.size), (hb.out.alloc hb.out.size _).alloc (Nat.le_trans hb.out.size (al1 _ _ _).2.size) _⟩
          case measure => simp [intOf]; omega
      · obtain rfl : k = 64 := by omega
        have TF : Hid (F.take 64 = F) := List.take_of_length_le (Nat.le_of_eq FL.out)
        rw [TF.out]
        clear hlt hk TF FE GK SK LF sz
        have f54 : (sOf (xb F 54)).size = 64 := by rw [sOf_size, xb_length, FL.out]
        have f92 : (sOf (xb F 92)).size = 64 := by rw [sOf_size, xb_length, FL.out]
        have zc : ¬ 9223372036854775807 < 64 + (sOf p).size := by have := ZP.out; omega
        have sd : (sOf dd).size = 32 := by rw [sOf_size, SE.out]
        clear ZP FL
        generalize sOf (xb F 54) = ua at *
        generalize sOf (xb F 92) = ub at *
        generalize sOf (xb F 54 ++ p) = ut at *
        generalize sOf (xb F 92 ++ dd) = uu at *
        generalize hpp : sOf p = pp at *
        clear hpp
        go_wp2_with fail
        rw [C1.out]
        refine (S1.out wr (HT.out.up hb.out HT.out.pos)).mono ?_
        rintro e w5 ⟨rfl, hb5⟩
        have D5 : Hid (Below w.heap.size w w5) := hb.out.trans (hb5.mono hb.out.size)
        have E5 : Hid (Blk w5 w.heap.size ((List.replicate 32 0).map b8)) := r0.out.up hb5 r0.out.lt
        clear hb5 hb r0 S1
        have T5 : Hid (∀ C t, C.size = 32 → World.there (w5.alloc (.cells C t)) w5.heap.size 0 (dd.map b8).length) := fun C t hC => (al1 w5 C t).1.there (by rw [List.length_map, SE.out, Array.length_toList, hC]; omega)
        go_wp2_with (refine wp_store_eq rfl 109 (.tmp 10) (.tmp 44) rfl w5.heap.size 0 (dd.map b8) rfl rfl (T5.out _ _ rfl) (ID.out dd SE.out) (one_b8 _) ?_)
        intro w6 hw6
        obtain ⟨b6, h6⟩ : Blk w6 w5.heap.size (dd.map b8) ∧ Below w5.heap.size w5 w6 := by
          rw [hw6.out]
          exact alst w5 _ _ _ (by rw [List.length_map, SE.out]; rfl)
        have D6 : Hid (Below w.heap.size w w6) := D5.out.trans (h6.mono D5.out.size)
        have E6 : Hid (Blk w6 w.heap.size ((List.replicate 32 0).map b8)) := E5.out.up h6 E5.out.lt
        have Y6 : Hid (By w6 (.slice (some ⟨w5.heap.size, 0, none⟩) 32 32) dd) := By.of_blk b6 SE.out
        clear hw6 b6 h6 D5 E5 T5
        generalize w5.heap.size = g5 at *
        go_wp2_with (first | (simp only [SD.out]) | (refine wp_conv rfl (.tmp 46) rfl _ dd rfl Y6.out ?_))
        rw [C2.out]
        refine (S2.out w6 (HT.out.up D6.out HT.out.pos)).mono ?_
        rintro e w7 ⟨rfl, hb7⟩
        have D7 : Hid (Below w.heap.size w w7) := D6.out.trans (hb7.mono D6.out.size)
        have E7 : Hid (Blk w7 w.heap.size ((List.replicate 32 0).map b8)) := E6.out.up hb7 E6.out.lt
        clear hb7 D6 E6 Y6 S2
        have T7 : Hid (w7.there w.heap.size 0 (mk.map b8).length) := E7.out.there (by rw [List.length_map, MK.out]; simp)
        go_wp2_with (refine wp_store_eq rfl 109 (.tmp 4) (.tmp 49) rfl w.heap.size 0 (mk.map b8) rfl rfl T7.out (ID.out mk MK.out) (one_b8 _) ?_)
        intro w8 hw8
        go_wp2_with fail
        refine bodyPost_ret (v := vB mk) ?_ rfl ⟨rfl, ?_⟩
        · rw [hw8.out]
          exact results_cell (b := w.heap.size) rfl rfl (World.rangeAt_setCells_same _ _ _ _ T7.out) u_d32 rfl (ID.out mk MK.out)
        · rw [hw8.out]
          exact below_setCells _ _ _ D7.out (Nat.le_refl _)
end Go.Proofs.YtdcpicbkemmakaaDoor

/- Bytes out of a seed, as lists; the contract of sealringref.Drawn. -/
namespace Go.Proofs.YtdcpicbkemmakaaDoor
open Go.RowKit
set_option linter.unusedSimpArgs false
/-- A number as eight bytes, the greatest first. -/
def be8 (k : Nat) : List Nat := (List.range 8).map fun x => k / 2 ^ (56 - 8 * x) % 256
theorem be8_length (k : Nat) : (be8 k).length = 8 := by simp [be8]
theorem be8_low (k : Nat) : ∀ x ∈ be8 k, x < 256 := by
  intro x hx
  obtain ⟨j, _, rfl⟩ := List.mem_map.1 hx
  omega
theorem be8_at {k x : Nat} (h : x < 8) : (be8 k).take (x + 1) = (be8 k).take x ++ [k / 2 ^ (56 - 8 * x) % 256] := by
  rw [List.take_add_one]
  congr 1
  simp [be8, h]
/-- A block of a source. -/
def blkS (seed : List Nat) (k : Nat) : List Nat := markS seed (be8 k)
theorem blkS_length (seed : List Nat) (k : Nat) : (blkS seed k).length = 32 := markK_length _ _
theorem blkS_low (seed : List Nat) (k : Nat) : ∀ x ∈ blkS seed k, x < 256 := sumS_low _
/-- The byte of a source at a place. -/
def byteS (seed : List Nat) (pl : Nat) : Nat := (blkS seed (pl / 32)).getD (pl % 32) 0
/-- So many bytes, from a place on. -/
def drawS (seed : List Nat) (pl n : Nat) : List Nat := (List.range n).map fun i => byteS seed ((pl + i) % 18446744073709551616)
theorem drawS_length (seed : List Nat) (pl n : Nat) : (drawS seed pl n).length = n := by simp [drawS]
theorem drawS_succ (seed : List Nat) (pl n : Nat) : drawS seed pl (n + 1) = drawS seed pl n ++ [byteS seed ((pl + n) % 18446744073709551616)] := by
  unfold drawS
  rw [List.range_succ, List.map_append]
  rfl
theorem byteS_lt (seed : List Nat) (pl : Nat) : byteS seed pl < 256 := by
  have h : pl % 32 < (blkS seed (pl / 32)).length := by rw [blkS_length]; exact Nat.mod_lt _ (by decide)
  unfold byteS
  rw [List.getD_eq_getElem?_getD, List.getElem?_eq_getElem h]
  exact blkS_low seed _ _ (List.getElem_mem h)
theorem drawS_low (seed : List Nat) (pl n : Nat) : ∀ x ∈ drawS seed pl n, x < 256 := by
  intro x hx
  obtain ⟨j, _, rfl⟩ := List.mem_map.1 hx
  exact byteS_lt _ _
/-- What is drawn in two parts is drawn at once. -/
theorem drawS_add (seed : List Nat) (pl m n : Nat) : drawS seed pl (m + n) = drawS seed pl m ++ drawS seed ((pl + m) % 18446744073709551616) n := by
  induction n with
  | zero => simp [drawS]
  | succ n ih =>
    rw [← Nat.add_assoc, drawS_succ, drawS_succ, ih, List.append_assoc]
    congr 4
    omega
theorem s_snoc (xs : List Nat) (x : Nat) : sOf xs ++ sOf [x] = sOf (xs ++ [x]) := sOf_append xs [x]
set_option maxRecDepth 20000 in
set_option maxHeartbeats 4000000 in
theorem rdrawn_fun (seed : List Nat) (ls : ∀ x ∈ seed, x < 256) (zs : seed.length ≤ 500000000000000) (pl : Nat) (hp : pl < 18446744073709551616) (n : Nat) (hn : n ≤ 4096) (w : World) (hT : RTab w) :
    Calls Tryd.prog 53 #[.string (sOf seed), .int .u64 (pl : Int), .int .i64 (n : Int)] w fun e w' => e = .returned (.string (sOf (drawS seed pl n))) ∧ Below w.heap.size w w' := by
  have MK : Hid (∀ k w, RTab w → Calls Tryd.prog 72 #[.string (sOf seed), .string (sOf (be8 k))] w fun e w' => e = .returned (vB (blkS seed k)) ∧ Below w.heap.size w w') := fun k w hT => rmark_fun seed (be8 k) ls zs (be8_low k) (by rw [be8_length]; decide) w hT
  have TU : Hid (∀ w', Below w.heap.size w w' → RTab w') := fun w' hb => hT.up hb hT.pos
  obtain ⟨x0, x1⟩ := al1 w #[Value.int IntKind.u8 0, Value.int IntKind.u8 0, Value.int IntKind.u8 0, Value.int IntKind.u8 0, Value.int IntKind.u8 0, Value.int IntKind.u8 0, Value.int IntKind.u8 0, Value.int IntKind.u8 0, Value.int IntKind.u8 0, Value.int IntKind.u8 0, Value.int IntKind.u8 0, Value.int IntKind.u8 0, Value.int IntKind.u8 0, Value.int IntKind.u8 0, Value.int IntKind.u8 0, Value.int IntKind.u8 0, Value.int IntKind.u8 0, Value.int IntKind.u8 0, Value.int IntKind.u8 0, Value.int IntKind.u8 0, Value.int IntKind.u8 0, Value.int IntKind.u8 0, Value.int IntKind.u8 0, Value.int IntKind.u8 0, Value.int IntKind.u8 0, Value.int IntKind.u8 0, Value.int IntKind.u8 0, Value.int IntKind.u8 0, Value.int IntKind.u8 0, Value.int IntKind.u8 0, Value.int IntKind.u8 0, Value.int IntKind.u8 0] 109
  have X0 : Hid (Blk _ _ ((List.replicate 32 0).map b8)) := x0
  have X1 : Hid (Below _ _ _) := x1
  have HP : Hid (pl < 18446744073709551616) := hp
  clear hT ls zs x0 x1 hp
  generalize hus : sOf seed = us at *
  clear hus
  go_enter Tryd.func53, Tryd.ntmps53
  go_wp2_with fail
  generalize w.alloc (Obj.cells #[Value.int IntKind.u8 0, Value.int IntKind.u8 0, Value.int IntKind.u8 0, Value.int IntKind.u8 0, Value.int IntKind.u8 0, Value.int IntKind.u8 0, Value.int IntKind.u8 0, Value.int IntKind.u8 0, Value.int IntKind.u8 0, Value.int IntKind.u8 0, Value.int IntKind.u8 0, Value.int IntKind.u8 0, Value.int IntKind.u8 0, Value.int IntKind.u8 0, Value.int IntKind.u8 0, Value.int IntKind.u8 0, Value.int IntKind.u8 0, Value.int IntKind.u8 0, Value.int IntKind.u8 0, Value.int IntKind.u8 0, Value.int IntKind.u8 0, Value.int IntKind.u8 0, Value.int IntKind.u8 0, Value.int IntKind.u8 0, Value.int IntKind.u8 0, Value.int IntKind.u8 0, Value.int IntKind.u8 0, Value.int IntKind.u8 0, Value.int IntKind.u8 0, Value.int IntKind.u8 0, Value.int IntKind.u8 0, Value.int IntKind.u8 0] 109) = w1 at *
  go_loopw [7, 8, 16] (fun s h i wr => ∃ (k hv : Nat) (D : List Nat), k ≤ n ∧ s = .string (sOf (drawS seed pl k)) ∧ h = .int .u64 (hv : Int) ∧ i = .int .i64 (k : Int) ∧ Hid (D.length = 32) ∧ Hid (k = 0 ∨ D = blkS seed hv) ∧ Hid (Blk wr w.heap.size (D.map b8)) ∧ Hid (Below w.heap.size w wr)) (fun _ _ i _ => n - (intOf i).toNat)
  case atStart => exact ⟨0, 0, List.replicate 32 0, by omega, rfl, rfl, rfl, (by simp : (List.replicate 32 0).length = 32), .inl rfl, X0, X1⟩
  case round =>
    clear X0 X1
    obtain ⟨k, hv, D, hk, rfl, rfl, rfl, dl, dd, bg, hb⟩ := hrel
    by_cases hlt : k < n
    · have i1 : (k : Int) < (n : Int) := by omega
      obtain ⟨P, hP⟩ : ∃ P, P = (pl + k) % 18446744073709551616 := ⟨_, rfl⟩
      have wP : IntKind.u64.wrap ((pl : Int) + (k : Int)) = (P : Int) := by rw [IntKind.wrap_u64]; omega
      have DS := drawS_succ seed pl k
      rw [← hP] at DS
      obtain ⟨q, hq⟩ : ∃ q, q = P / 32 := ⟨_, rfl⟩
      obtain ⟨r, hr⟩ : ∃ r, r = P % 32 := ⟨_, rfl⟩
      have wq : IntKind.u64.wrap ((P : Int).tdiv 32) = (q : Int) := by rw [IntKind.wrap_u64, Int.tdiv_eq_ediv_of_nonneg (by omega)]; omega
      have wq' : (P : Int) / 32 = (q : Int) := by omega
      have wr1 : (P : Int).tmod 32 = (r : Int) := by rw [Int.tmod_eq_emod_of_nonneg (by omega)]; omega
      have wr2 : (P : Int) % 32 = (r : Int) := by omega
      have wr3 : IntKind.u64.wrap ((r : Int) + 1) = (r : Int) + 1 := by rw [IntKind.wrap_u64]; omega
      have r32 : r < 32 := by omega
      have q64 : q < 18446744073709551616 := by omega
      have BQ : Hid (byteS seed P = (blkS seed q).getD r 0) := by rw [hq, hr]; exact rfl
      have P64 : P < 18446744073709551616 := by omega
      have TS : Hid (sOf (drawS seed pl k) ++ sOf [(blkS seed q).getD r 0] = sOf (drawS seed pl (k + 1))) := by
        rw [DS, ← BQ.out]
        exact s_snoc _ _
      have ta : (sOf (drawS seed pl k)).size = k := by rw [sOf_size, drawS_length]
      clear hq hr hP DS BQ
      by_cases hk0 : k = 0
      · subst hk0
        have wP0 : IntKind.u64.wrap (pl : Int) = (P : Int) := by rw [← wP]; simp
        go_wp2_with fail
        go_loopw [13, 33] (fun b x wr => ∃ j : Nat, j ≤ 8 ∧ b = .string (sOf ((be8 q).take j)) ∧ x = .int .i64 (j : Int) ∧ Hid (Blk wr w.heap.size (D.map b8)) ∧ Hid (Below w.heap.size w wr)) (fun _ x _ => 8 - (intOf x).toNat)
        case atStart => exact ⟨0, by omega, rfl, rfl, bg, hb⟩
        case round =>
          clear bg hb
          obtain ⟨j, hj, rfl, rfl, bg, hb⟩ := hrel
          by_cases hj8 : j < 8
          · have j1 : (j : Int) < 8 := by omega
            have TT : Hid (sOf ((be8 q).take j) ++ sOf [q / 2 ^ (56 - 8 * j) % 256] = sOf ((be8 q).take (j + 1))) := by
              rw [be8_at hj8]
              exact s_snoc _ _
            have tj : (sOf ((be8 q).take j)).size = j := by rw [sOf_size, List.length_take, be8_length]; omega
            have tk : (sOf [q / 2 ^ (56 - 8 * j) % 256]).size = 1 := by rw [sOf_size]; rfl
            have BY : Hid (∀ (xa : Nat) (W : World) (t : TypeId) (g : Nat), g = W.heap.size → By (W.alloc (.cells #[.int .u8 (xa : Int)] t)) (.slice (some ⟨g, 0, none⟩) 1 1) [xa]) := fun xa W t g hg => By.one ((cell_top hg).trans rfl)
            go_wp2_with (refine wp_conv rfl (.tmp 43) rfl _ [q / 2 ^ (56 - 8 * j) % 256] rfl (BY.out _ _ _ _ (by simp)) ?_)
            rw [TT.out]
            go_roundw
            case rel => exact ⟨j + 1, by omega, rfl, by go_num, bg.out.up (al1 _ _ _).2 bg.out.lt, hb.out.alloc hb.out.size _⟩
            case measure => simp [intOf]; omega
          · obtain rfl : j = 8 := by omega
            have TK : Hid ((be8 q).take 8 = be8 q) := List.take_of_length_le (by rw [be8_length]; exact Nat.le_refl _)
            rw [TK.out]
            have MQ : Hid _ := MK.out q wr (TU.out _ hb.out)
            have BL : Hid _ := blkS_length seed q
            have IB : Hid _ := info_d32.trans (congrArg some (show 32 = ((blkS seed q).map b8).length by rw [List.length_map, BL.out]))
            clear hj8 hj TK
            generalize hbq : sOf (be8 q) = ub at *
            clear hbq
            go_wp2_with fail
            refine Calls.mono MQ.out ?_
            rintro e w4 ⟨rfl, hb4⟩
            have B4 : Hid (Blk w4 w.heap.size (D.map b8)) := bg.out.up hb4 bg.out.lt
            have D4 : Hid (Below w.heap.size w w4) := hb.out.trans (hb4.mono hb.out.size)
            clear hb4 bg hb MQ
            have T4 : Hid (w4.there w.heap.size 0 ((blkS seed q).map b8).length) := B4.out.there (by rw [List.length_map, List.length_map, BL.out, dl.out]; omega)
            go_wp2_with (refine wp_store_eq rfl 109 (.tmp 9) (.tmp 49) rfl w.heap.size 0 ((blkS seed q).map b8) rfl rfl T4.out IB.out (one_b8 _) ?_)
            intro w5 hw5
            have BZ : Hid (Blk w5 w.heap.size ((blkS seed q).map b8)) := by
              rw [hw5.out]
              have h1 : Blk w4 w.heap.size ([] ++ (D.map b8 ++ [])) := by simpa using B4.out
              have h2 := h1.store (o := 0) (b' := (blkS seed q).map b8) rfl (by rw [List.length_map, List.length_map, BL.out, dl.out])
              rw [List.nil_append, List.append_nil] at h2
              exact h2
            have DZ : Hid (Below w.heap.size w w5) := by
              rw [hw5.out]
              exact below_setCells _ _ _ D4.out (Nat.le_refl _)
            clear hw5 T4 B4 D4 IB BL dd dl
            have CR : Hid (∀ W, Blk W w.heap.size ((blkS seed q).map b8) → By W (.slice (some ⟨w.heap.size, r, none⟩) 1 (32 - r)) [(blkS seed q).getD r 0]) := fun W h => By.of_cells (xs := [(blkS seed q).getD r 0]) (by rw [List.length_singleton]; omega) (fun j hj => by
              obtain rfl : j = 0 := by simpa using hj
              rw [Nat.add_zero]
              refine h.cell r _ ?_
              have : r < (blkS seed q).length := by rw [blkS_length]; exact r32
              simp [List.getD_eq_getElem?_getD, this])
            have tb : (sOf [(blkS seed q).getD r 0]).size = 1 := by rw [sOf_size]; rfl
            have r1 : (r : Int) ≤ (r : Int) + 1 := by omega
            have r2 : (r : Int) + 1 ≤ 32 := by omega
            have BY : Hid _ := CR.out _ BZ.out
            clear CR
            generalize (blkS seed q).getD r 0 = by1 at *
            generalize hu1 : sOf (drawS seed pl 0) = u1 at *
            clear hu1
            go_wp2_with (refine wp_conv rfl (.tmp 56) rfl _ [by1] rfl BY.out ?_)
            rw [TS.out]
            go_roundw
            case rel => exact ⟨0 + 1, q, blkS seed q, by omega, rfl, rfl, by first | rfl | go_num, blkS_length seed q, .inr rfl, BZ, DZ⟩
            case measure => simp [intOf]; omega
      · have k0 : ¬ (k : Int) = 0 := by omega
        have k0b : ((k : Int) == 0) = false := by simpa using k0
        by_cases hqh : q = hv
        · subst hqh
          have DE : Hid (D = blkS seed q) := dd.out.resolve_left hk0
          rw [DE.out] at bg
          have BZ : Hid (Blk wr w.heap.size ((blkS seed q).map b8)) := bg
          have DZ : Hid (Below w.heap.size w wr) := hb
          clear bg hb dd dl DE hk0
          have CR : Hid (∀ W, Blk W w.heap.size ((blkS seed q).map b8) → By W (.slice (some ⟨w.heap.size, r, none⟩) 1 (32 - r)) [(blkS seed q).getD r 0]) := fun W h => By.of_cells (xs := [(blkS seed q).getD r 0]) (by rw [List.length_singleton]; omega) (fun j hj => by
            obtain rfl : j = 0 := by simpa using hj
            rw [Nat.add_zero]
            refine h.cell r _ ?_
            have : r < (blkS seed q).length := by rw [blkS_length]; exact r32
            simp [List.getD_eq_getElem?_getD, this])
          have tb : (sOf [(blkS seed q).getD r 0]).size = 1 := by rw [sOf_size]; rfl
          have r1 : (r : Int) ≤ (r : Int) + 1 := by omega
          have r2 : (r : Int) + 1 ≤ 32 := by omega
          have BY : Hid _ := CR.out _ BZ.out
          clear CR
          generalize (blkS seed q).getD r 0 = by1 at *
          generalize hu1 : sOf (drawS seed pl k) = u1 at *
          clear hu1
          go_wp2_with (refine wp_conv rfl (.tmp 56) rfl _ [by1] rfl BY.out ?_)
          rw [TS.out]
          go_roundw
          case rel => exact ⟨k + 1, q, blkS seed q, by omega, rfl, rfl, by first | rfl | go_num, blkS_length seed q, .inr rfl, BZ, DZ⟩
          case measure => simp [intOf]; omega
        · have q1 : ¬ (q : Int) = (hv : Int) := by omega
          have q1b : ((q : Int) != (hv : Int)) = true := by simpa using q1
          clear hk0 hqh
          go_wp2_with fail
          go_loopw [13, 33] (fun b x wr => ∃ j : Nat, j ≤ 8 ∧ b = .string (sOf ((be8 q).take j)) ∧ x = .int .i64 (j : Int) ∧ Hid (Blk wr w.heap.size (D.map b8)) ∧ Hid (Below w.heap.size w wr)) (fun _ x _ => 8 - (intOf x).toNat)
          case atStart => exact ⟨0, by omega, rfl, rfl, bg, hb⟩
          case round =>
            clear bg hb
            obtain ⟨j, hj, rfl, rfl, bg, hb⟩ := hrel
            by_cases hj8 : j < 8
            · have j1 : (j : Int) < 8 := by omega
              have TT : Hid (sOf ((be8 q).take j) ++ sOf [q / 2 ^ (56 - 8 * j) % 256] = sOf ((be8 q).take (j + 1))) := by
                rw [be8_at hj8]
                exact s_snoc _ _
              have tj : (sOf ((be8 q).take j)).size = j := by rw [sOf_size, List.length_take, be8_length]; omega
              have tk : (sOf [q / 2 ^ (56 - 8 * j) % 256]).size = 1 := by rw [sOf_size]; rfl
              have BY : Hid (∀ (xa : Nat) (W : World) (t : TypeId) (g : Nat), g = W.heap.size → By (W.alloc (.cells #[.int .u8 (xa : Int)] t)) (.slice (some ⟨g, 0, none⟩) 1 1) [xa]) := fun xa W t g hg => By.one ((cell_top hg).trans rfl)
              go_wp2_with (refine wp_conv rfl (.tmp 43) rfl _ [q / 2 ^ (56 - 8 * j) % 256] rfl (BY.out _ _ _ _ (by simp)) ?_)
              rw [TT.out]
              go_roundw
              case rel => exact ⟨j + 1, by omega, rfl, by go_num, bg.out.up (al1 _ _ _).2 bg.out.lt, hb.out.alloc hb.out.size _⟩
              case measure => simp [intOf]; omega
            · obtain rfl : j = 8 := by omega
              have TK : Hid ((be8 q).take 8 = be8 q) := List.take_of_length_le (by rw [be8_length]; exact Nat.le_refl _)
              rw [TK.out]
              have MQ : Hid _ := MK.out q wr (TU.out _ hb.out)
              have BL : Hid _ := blkS_length seed q
              have IB : Hid _ := info_d32.trans (congrArg some (show 32 = ((blkS seed q).map b8).length by rw [List.length_map, BL.out]))
              clear hj8 hj TK
              generalize hbq : sOf (be8 q) = ub at *
              clear hbq
              go_wp2_with fail
              refine Calls.mono MQ.out ?_
              rintro e w4 ⟨rfl, hb4⟩
              have B4 : Hid (Blk w4 w.heap.size (D.map b8)) := bg.out.up hb4 bg.out.lt
              have D4 : Hid (Below w.heap.size w w4) := hb.out.trans (hb4.mono hb.out.size)
              clear hb4 bg hb MQ
              have T4 : Hid (w4.there w.heap.size 0 ((blkS seed q).map b8).length) := B4.out.there (by rw [List.length_map, List.length_map, BL.out, dl.out]; omega)
              go_wp2_with (refine wp_store_eq rfl 109 (.tmp 9) (.tmp 49) rfl w.heap.size 0 ((blkS seed q).map b8) rfl rfl T4.out IB.out (one_b8 _) ?_)
              intro w5 hw5
              have BZ : Hid (Blk w5 w.heap.size ((blkS seed q).map b8)) := by
                rw [hw5.out]
                have h1 : Blk w4 w.heap.size ([] ++ (D.map b8 ++ [])) := by simpa using B4.out
                have h2 := h1.store (o := 0) (b' := (blkS seed q).map b8) rfl (by rw [List.length_map, List.length_map, BL.out, dl.out])
                rw [List.nil_append, List.append_nil] at h2
                exact h2
              have DZ : Hid (Below w.heap.size w w5) := by
                rw [hw5.out]
                exact below_setCells _ _ _ D4.out (Nat.le_refl _)
              clear hw5 T4 B4 D4 IB BL dd dl
              have CR : Hid (∀ W, Blk W w.heap.size ((blkS seed q).map b8) → By W (.slice (some ⟨w.heap.size, r, none⟩) 1 (32 - r)) [(blkS seed q).getD r 0]) := fun W h => By.of_cells (xs := [(blkS seed q).getD r 0]) (by rw [List.length_singleton]; omega) (fun j hj => by
                obtain rfl : j = 0 := by simpa using hj
                rw [Nat.add_zero]
                refine h.cell r _ ?_
                have : r < (blkS seed q).length := by rw [blkS_length]; exact r32
                simp [List.getD_eq_getElem?_getD, this])
              have tb : (sOf [(blkS seed q).getD r 0]).size = 1 := by rw [sOf_size]; rfl
              have r1 : (r : Int) ≤ (r : Int) + 1 := by omega
              have r2 : (r : Int) + 1 ≤ 32 := by omega
              have BY : Hid _ := CR.out _ BZ.out
              clear CR
              generalize (blkS seed q).getD r 0 = by1 at *
              generalize hu1 : sOf (drawS seed pl k) = u1 at *
              clear hu1
              go_wp2_with (refine wp_conv rfl (.tmp 56) rfl _ [by1] rfl BY.out ?_)
              rw [TS.out]
              go_roundw
              case rel => exact ⟨k + 1, q, blkS seed q, by omega, rfl, rfl, by first | rfl | go_num, blkS_length seed q, .inr rfl, BZ, DZ⟩
              case measure => simp [intOf]; omega
    · obtain rfl : k = n := by omega
      go_wp2_with fail
      go_ret
      exact ⟨rfl, hb.out⟩
end Go.Proofs.YtdcpicbkemmakaaDoor

/- What is asked of a source of bytes, whatever it keeps: the contracts of package draw as one premise. -/
namespace Go.Proofs.YtdcpicbkemmakaaDoor
open Go.RowKit
set_option linter.unusedSimpArgs false
/-- Nothing but block k, and what is new, is another. -/
abbrev Fr (w : World) (k : Nat) (w' : World) : Prop := w.grownBy w' (some k)
theorem Fr.refl (w : World) (k : Nat) : Fr w k w := ⟨rfl, rfl, rfl, Nat.le_refl _, fun _ _ _ => rfl⟩
theorem Fr.then {w a b : World} {k : Nat} (h : Fr w k a) (hb : Below a.heap.size a b) : Fr w k b :=
  ⟨hb.os.trans h.os, hb.tape.trans h.tape, hb.output.trans h.output, Nat.le_trans h.size hb.size, fun j hj hk => (hb.block j (Nat.lt_of_lt_of_le hj h.size)).trans (h.block j hj hk)⟩
theorem Fr.below {w a : World} {k B : Nat} (h : Fr w k a) (hB : B ≤ w.heap.size) (hk : B ≤ k) : Below B w a := Below.grown (Below.refl _ _) h hB (fun j hj => by cases hj; exact hk)
abbrev ptr (k : Nat) : Value := .pointer (some ⟨k, 0, none⟩)
end Go.Proofs.YtdcpicbkemmakaaDoor
