/- The contract of hash.State.Write: a state of a text becomes the state of a longer one. -/
import Derived.Test.YtdcpicbkemmakabDoorQBsMkToHRd
namespace Go.Proofs.YtdcpicbkemmakabDoor
open Go.RowKit
set_option linter.unusedSimpArgs false
def lenV : Value → Nat
  | .slice _ n _ => n
  | _ => 0
set_option maxRecDepth 20000 in
set_option maxHeartbeats 4000000 in
theorem write_core (H : R8) (n : Nat) (hn : n % 64 = 0) (p q : List Nat) (lp : ∀ x ∈ p, x < 256) (lq : ∀ x ∈ q, x < 256) (hq : q.length ≤ 9223372036854775807) (v : Value) (w : World) (hv : By w v q) (hT : KTab w) :
    Calls Tryd.prog 55 #[.agg (cS (wordsS H p) (restS p) (cntS n p)).toArray, v] w fun e w' => e = .returned (stV H n (p ++ q)) ∧ Below w.heap.size w w' := by
  obtain ⟨a0, c0, rfl⟩ := hv.len
  have HV : Hid (By w _ q) := hv
  have HT : Hid (KTab w) := hT
  have LP : Hid (∀ x ∈ p, x < 256) := lp
  have LQ : Hid (∀ x ∈ q, x < 256) := lq
  have HN : Hid (n % 64 = 0) := hn
  clear hv hT lp lq hn
  generalize hql : q.length = ql at *
  have HQL : Hid (q.length = ql) := hql
  clear hql
  go_enter Tryd.func55, Tryd.ntmps55
  go_wp2_with (simp only [zero_state])
  go_loopw [1] (fun s1 wr => ∃ i, i ≤ ql ∧ Hid (By w s1 (q.drop i)) ∧ Hid (Blk wr w.heap.size (cS (wordsS H (p ++ q.take i)) (restS (p ++ q.take i)) (cntS n (p ++ q.take i)))) ∧ Hid (Blk wr (w.heap.size + 1) zS) ∧ Hid (Below w.heap.size w wr)) (fun s1 _ => lenV s1)
  case atStart =>
    obtain ⟨x0, x1, x2⟩ := al2 w _ _ _ _
    refine ⟨0, by omega, HV.out, ?_, x1, x2⟩
    simp only [List.take_zero, List.append_nil]
    exact x0
  case round =>
    obtain ⟨i, hi, b1, k0, kz, hb⟩ := hrel
    have TR : Hid (KTab wr) := HT.out.up hb.out HT.out.pos
    have RL : (q.drop i).length = ql - i := by rw [List.length_drop, HQL.out]
    have LR : Hid (∀ x ∈ q.drop i, x < 256) := fun x hx => LQ.out x (List.mem_of_mem_drop hx)
    have LD : Hid (∀ x ∈ p ++ q.take i, x < 256) := fun x hx => (List.mem_append.1 hx).elim (LP.out x) (fun h => LQ.out x (List.mem_of_mem_take h))
    have QT : Hid (∀ m, q.take (i + m) = q.take i ++ (q.drop i).take m) := fun m => List.take_add
    have QD : Hid (∀ m, (q.drop i).drop m = q.drop (i + m)) := fun m => by rw [List.drop_drop]
    obtain ⟨ra, rc, rfl⟩ := b1.out.len
    rw [RL] at b1 ⊢
    generalize hpd : p ++ q.take i = pd at *
    have PD : Hid (∀ m, p ++ q.take (i + m) = pd ++ (q.drop i).take m) := fun m => by rw [QT.out, ← List.append_assoc, hpd]
    have PE : Hid (ql ≤ i → pd = p ++ q) := fun h => by rw [← hpd, List.take_of_length_le (by rw [HQL.out]; exact h)]
    clear hpd QT
    have RL' : Hid ((q.drop i).length = ql - i) := RL
    clear RL
    by_cases hlt : i < ql
    · generalize q.drop i = r at *
      generalize hrl : ql - i = rl at *
      have rl0 : 0 < rl := by omega
      have c72 := k0.out.cntAt (restS_length pd)
      have cm : Hid (cntS n pd % 64 = pd.length % 64) := cnt_mod n pd HN.out
      generalize hcn : cntS n pd = cn at *
      have CN : Hid (∀ x, (cn + x.length) % 18446744073709551616 = cntS n (pd ++ x)) := fun x => by rw [← hcn, cnt_on]
      clear hcn
      obtain ⟨l, hl⟩ : ∃ l, l = pd.length % 64 := ⟨_, rfl⟩
      have l64 : l < 64 := by omega
      have HL : Hid (pd.length % 64 = l) := hl.symm
      have ml : (cn : Int) % 64 = (l : Int) := by have := cm.out; omega
      clear hl
      have BR : Hid (By wr (.slice ra rl rc) r) := b1.out.up hb.out (Nat.le_refl _)
      have sl := slice_arr u_blk info_u8 .u64 ((cn : Int) % 64) w.heap.size 8 l ml l64
      have SL : Hid _ := sl
      have ML : Hid ((cn : Int) % 64 = (l : Int)) := ml
      clear sl cm ml
      have TH : Hid (wr.there w.heap.size (8 + l) (min r.length (64 - l))) := k0.out.there (by rw [cS_length _ _ _ (restS_length pd)]; omega)
      go_wp2_with (first | (simp only [SL.out]) | (refine wp_copyB rfl (.tmp 13) (.tmp 14) rfl w.heap.size (8 + l) (64 - l) (64 - l) (.slice ra rl rc) r rfl rfl BR.out (by rw [RL'.out]; exact rl0) TH.out ?_))
      intro w2 hw2
      have m0 : (r.take (64 - l)).length = min rl (64 - l) := by rw [List.length_take, RL'.out]; omega
      have K2 : Hid (Blk w2 w.heap.size (cS (wordsS H pd) (laidS pd (r.take (64 - l))) cn)) := by
        rw [hw2.out]
        exact k0.out.lay (by rw [HL.out, m0]; omega) (by rw [HL.out])
      have Z2 : Hid (Blk w2 (w.heap.size + 1) zS) := by
        rw [hw2.out]
        exact kz.out.apart (by omega)
      have B2 : Hid (Below w.heap.size w w2) := by
        rw [hw2.out]
        exact below_setCells _ _ _ hb.out (Nat.le_refl _)
      clear hw2 k0 kz hb TR SL TH BR c72
      have LX : Hid (∀ z ∈ laidS pd (r.take (64 - l)), z < 256) := laidS_low LD.out (fun z hz => LR.out z (List.mem_of_mem_take hz))
      have XL : (laidS pd (r.take (64 - l))).length = 64 := laidS_length _ _ (by rw [HL.out, m0]; omega)
      rw [RL'.out]
      have c72 := K2.out.cntAt XL
      have f72 := K2.out.fz 72
      have CX := CN.out (r.take (64 - l))
      rw [m0] at CX
      have XM : Hid ((r.take (64 - l)).length = min rl (64 - l)) := m0
      generalize hm : min rl (64 - l) = m at *
      have mr : m ≤ rl := by omega
      have CX' : IntKind.u64.wrap ((cn : Int) + (m : Int)) = ((cntS n (pd ++ r.take (64 - l)) : Nat) : Int) := by rw [← CX, IntKind.wrap_u64]; omega
      have RT : Hid (r.take (64 - l) = r.take m) := by
        have : r.take (64 - l) = r.take (min r.length (64 - l)) := by rw [Nat.min_comm, List.take_eq_take_iff]; omega
        rw [this, RL'.out, hm]
        exact rfl
      go_wp2_with (refine wp_cutB rfl (.tmp 16) (.tmp 17) rfl ra rl rc m .i64 _ r rfl RL'.out.symm rfl rfl (by rw [RL'.out]; exact mr) w b1.out ?_)
      intro v3 b3
      rw [QD.out] at b3
      have B3 : Hid (By w v3 (q.drop (i + m))) := b3
      have V3 : Hid (lenV v3 < rl) := by
        obtain ⟨_, _, e⟩ := b3.len
        rw [e]
        show (q.drop (i + m)).length < rl
        rw [List.length_drop, HQL.out]
        omega
      clear b3 b1
      have PM := PD.out m
      rw [← RT.out] at PM
      have PX : Hid (p ++ q.take (i + m) = pd ++ r.take (64 - l)) := PM
      have c2m : cntS n (pd ++ r.take (64 - l)) % 64 = (l + m) % 64 := by rw [cnt_mod n _ HN.out, List.length_append, XM.out]; have := HL.out; omega
      generalize r.take (64 - l) = x at *
      clear PM RT PD LR CX
      generalize hc2 : cntS n (pd ++ x) = c2 at *
      have C2 : Hid (cntS n (pd ++ x) = c2) := hc2
      clear hc2
      have K3 : Hid (Blk (w2.setCell ⟨w.heap.size, 72, none⟩ (.int .u64 (c2 : Int))) w.heap.size (cS (wordsS H pd) (laidS pd x) c2)) := K2.out.cnt XL c2 rfl
      have Z3 : Hid (Blk (w2.setCell ⟨w.heap.size, 72, none⟩ (.int .u64 (c2 : Int))) (w.heap.size + 1) zS) := Z2.out.apart1 (by omega)
      have D3 : Hid (Below w.heap.size w (w2.setCell ⟨w.heap.size, 72, none⟩ (.int .u64 (c2 : Int)))) := B2.out.setCell (Nat.le_refl _) _
      clear K2 Z2 B2 CN PE
      by_cases hfull : 64 - l ≤ rl
      · have lm : l + m = 64 := by omega
        have t1 : (c2 : Int) % 64 = 0 := by omega
        have LI : Hid _ := info_blk.trans (congrArg some (show 64 = ((laidS pd x).map b8).length by rw [List.length_map, XL]))
        have HXL : Hid _ := XL
        have LW : Hid _ := info_w8.trans (congrArg some (show 8 = ((wordsS H pd).list.map uw).length by simp [R8.list]))
        clear c2m XL
        have FR := full_rest pd x (by rw [HL.out, XM.out]; exact lm)
        have FW := full_words H pd x (by rw [HL.out, XM.out]; exact lm)
        rw [← PX.out] at FR FW C2
        have HFR : Hid _ := FR
        have HFW : Hid _ := FW
        clear FR FW
        generalize wordsS H pd = W at *
        generalize laidS pd x = bs at *
        go_wp2_with (first | refine wpList_load_mid rfl 72 (.tmp 29) rfl w.heap.size 0 rfl (W.list.map uw) _ K3.out.words u_w8 rfl LW.out ?_ | refine wpList_load_mid rfl 73 (.tmp 31) rfl w.heap.size 8 rfl (bs.map b8) _ K3.out.rest u_blk rfl LI.out ?_)
        refine (mix_fun W bs HXL.out LX.out _ (HT.out.up D3.out HT.out.pos)).mono ?_
        rintro e w4 ⟨rfl, hb4⟩
        have K4 : Hid (Blk w4 _ _) := K3.out.up hb4 K3.out.lt
        have Z4 : Hid (Blk w4 _ _) := Z3.out.up hb4 Z3.out.lt
        have D4 : Hid (Below w.heap.size w w4) := D3.out.trans (hb4.mono D3.out.size)
        clear hb4 K3 Z3 D3
        generalize mixS W bs = M at *
        have LM : Hid _ := info_w8.trans (congrArg some (show 8 = (M.list.map uw).length by simp [R8.list]))
        have T4 : Hid (w4.there w.heap.size 0 (M.list.map uw).length) := K4.out.there (by rw [cS_length _ _ _ HXL.out]; simp [R8.list])
        go_wp2_with (refine wp_store_eq rfl 72 (.tmp 34) (.tmp 33) rfl w.heap.size 0 (M.list.map uw) rfl rfl T4.out LM.out (one_uw _ U) ?_)
        intro w5 hw5
        have K5 : Hid (Blk w5 w.heap.size (cS M bs c2)) := by rw [hw5.out]; exact K4.out.setWords _
        have Z5 : Hid (Blk w5 (w.heap.size + 1) zS) := by rw [hw5.out]; exact Z4.out.apart (by omega)
        have D5 : Hid (Below w.heap.size w w5) := by rw [hw5.out]; exact below_setCells _ _ _ D4.out (Nat.le_refl _)
        clear hw5 K4 Z4 D4 LM T4
        obtain ⟨zz, hzz⟩ : ∃ zz, zz = List.replicate 64 0 := ⟨_, rfl⟩
        have ZZ : Hid (zz = List.replicate 64 0) := hzz
        have zl : zz.length = 64 := by rw [hzz]; simp
        have LN : Hid _ := info_blk.trans (congrArg some (show 64 = (zz.map b8).length by rw [List.length_map, zl]))
        have T5 : Hid (w5.there w.heap.size 8 (zz.map b8).length) := K5.out.there (by rw [cS_length _ _ _ HXL.out, List.length_map, zl]; omega)
        rw [← hzz] at HFR
        have ZL : Hid (zz.length = 64) := zl
        clear zl hzz
        go_wp2_with (first | refine wp_buildz rfl rfl zz ZZ.out ?_ | refine wp_store_eq rfl 73 (.tmp 36) (.tmp 35) rfl w.heap.size 8 (zz.map b8) rfl rfl T5.out LN.out (one_b8 _) ?_)
        intro w6 hw6
        have K6 : Hid (Blk w6 w.heap.size (cS M zz c2)) := by rw [hw6.out]; exact K5.out.setRest _ (by rw [HXL.out, ZL.out])
        have Z6 : Hid (Blk w6 (w.heap.size + 1) zS) := by rw [hw6.out]; exact Z5.out.apart (by omega)
        have D6 : Hid (Below w.heap.size w w6) := by rw [hw6.out]; exact below_setCells _ _ _ D5.out (Nat.le_refl _)
        clear hw6 K5 Z5 D5 LN T5
        go_wp2_with fail
        go_roundw
        case rel => exact ⟨i + m, by omega, B3, by rw [HFR.out, HFW.out, C2.out]; exact K6, Z6, D6⟩
        case measure => exact V3.out
      · have t1 : ¬ (c2 : Int) % 64 = 0 := by omega
        have t2 : ((c2 : Int) % 64 == 0) = false := by simpa using t1
        have FR := on_rest pd x (by rw [HL.out, XM.out]; omega)
        have FW := on_words H pd x (by rw [HL.out, XM.out]; omega)
        rw [← PX.out] at FR FW C2
        have HFR : Hid _ := FR
        have HFW : Hid _ := FW
        clear FR FW XL c2m
        go_wp2_with fail
        go_roundw
        case rel => exact ⟨i + m, by omega, B3, by rw [HFR.out, HFW.out, C2.out]; exact K3, Z3, D3⟩
        case measure => exact V3.out
    · obtain rfl : i = ql := by omega
      clear hlt hi
      have pe := PE.out (Nat.le_refl _)
      subst pe
      have I1 : Hid _ := info_state.trans (congrArg some (cS_length (wordsS H (p ++ q)) (restS (p ++ q)) (cntS n (p ++ q)) (restS_length _)).symm)
      obtain ⟨ds, hu, hr⟩ := u_state'
      have T1 : Hid (wr.there (w.heap.size + 1) 0 (cS (wordsS H (p ++ q)) (restS (p ++ q)) (cntS n (p ++ q))).length) := kz.out.there (by rw [cS_length _ _ _ (restS_length _), zS_length]; omega)
      go_wp2_with (first | refine wpList_load_mid rfl 75 (.tmp 2) rfl w.heap.size 0 rfl (cS (wordsS H (p ++ q)) (restS (p ++ q)) (cntS n (p ++ q))) _ k0.out.all hu hr I1.out ?_ | refine wp_store_eq rfl 75 (.tmp 4) (.tmp 37) rfl (w.heap.size + 1) 0 (cS (wordsS H (p ++ q)) (restS (p ++ q)) (cntS n (p ++ q))) rfl rfl T1.out I1.out (one_cS _ _ _) ?_)
      intro w2 hw2
      go_wp2_with fail
      refine bodyPost_ret (v := stV H n (p ++ q)) ?_ rfl ⟨rfl, ?_⟩
      · rw [hw2.out]
        exact results_cell (b := w.heap.size + 1) rfl rfl (World.rangeAt_setCells_same _ _ _ _ T1.out) hu hr I1.out
      · rw [hw2.out]
        exact below_setCells _ _ _ hb.out (by omega)
end Go.Proofs.YtdcpicbkemmakabDoor
