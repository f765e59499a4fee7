/- Texts that were joined: HWrite, UpL, HSum. -/
import Derived.Test.YtdcpicbkemmakaaDoorQBsMkToHRd
import Derived.Test.YtdcpicbkemmakaaDoorQUpMToUpS
/- The contract of hash.State.Write: a state of a text becomes the state of a longer one. -/
namespace Go.Proofs.YtdcpicbkemmakaaDoor
open Go.RowKit
set_option linter.unusedSimpArgs false
def lenV : Value → Nat
  | .slice _ n _ => n
  | _ => 0
set_option maxRecDepth 20000 in
set_option maxHeartbeats 4000000 in
theorem write_core (H : R8) (n : Nat) (hn : n % 64 = 0) (p q : List Nat) (lp : ∀ x ∈ p, x < 256) (lq : ∀ x ∈ q, x < 256) (hq : q.length ≤ 9223372036854775807) (v : Value) (w : World) (hv : By w v q) (hT : KTab w) :
    Calls Tryd.prog 82 #[.agg (cS (wordsS H p) (restS p) (cntS n p)).toArray, v] w fun e w' => e = .returned (stV H n (p ++ q)) ∧ Below w.heap.size w w' := by
  obtain ⟨a0, c0, rfl⟩ := hv.len
  have HV : Hid (By w _ q) := hv
  have HT : Hid (KTab w) := hT
  have LP : Hid (∀ x ∈ p, x < 256) := lp
  have LQ : Hid (∀ x ∈ q, x < 256) := lq
  have HN : Hid (n % 64 = 0) := hn
  clear hv hT lp lq hn
  generalize hql : q.length = ql at *
  have HQL : Hid (q.length = ql) := hql
  clear hql
  go_enter Tryd.func82, Tryd.ntmps82
  go_wp2_with (simp only [zero_state])
  go_loopw [1] (fun s1 wr => ∃ i, i ≤ ql ∧ Hid (By w s1 (q.drop i)) ∧ Hid (Blk wr w.heap.size (cS (wordsS H (p ++ q.take i)) (restS (p ++ q.take i)) (cntS n (p ++ q.take i)))) ∧ Hid (Blk wr (w.heap.size + 1) zS) ∧ Hid (Below w.heap.size w wr)) (fun s1 _ => lenV s1)
  case atStart =>
    obtain ⟨x0, x1, x2⟩ := al2 w _ _ _ _
    refine ⟨0, by omega, HV.out, ?_, x1, x2⟩
    simp only [List.take_zero, List.append_nil]
    exact x0
  case round =>
    obtain ⟨i, hi, b1, k0, kz, hb⟩ := hrel
    have TR : Hid (KTab wr) := HT.out.up hb.out HT.out.pos
    have RL : (q.drop i).length = ql - i := by rw [List.length_drop, HQL.out]
    have LR : Hid (∀ x ∈ q.drop i, x < 256) := fun x hx => LQ.out x (List.mem_of_mem_drop hx)
    have LD : Hid (∀ x ∈ p ++ q.take i, x < 256) := fun x hx => (List.mem_append.1 hx).elim (LP.out x) (fun h => LQ.out x (List.mem_of_mem_take h))
    have QT : Hid (∀ m, q.take (i + m) = q.take i ++ (q.drop i).take m) := fun m => List.take_add
    have QD : Hid (∀ m, (q.drop i).drop m = q.drop (i + m)) := fun m => by rw [List.drop_drop]
    obtain ⟨ra, rc, rfl⟩ := b1.out.len
    rw [RL] at b1 ⊢
    generalize hpd : p ++ q.take i = pd at *
    have PD : Hid (∀ m, p ++ q.take (i + m) = pd ++ (q.drop i).take m) := fun m => by rw [QT.out, ← List.append_assoc, hpd]
    have PE : Hid (ql ≤ i → pd = p ++ q) := fun h => by rw [← hpd, List.take_of_length_le (by rw [HQL.out]; exact h)]
    clear hpd QT
    have RL' : Hid ((q.drop i).length = ql - i) := RL
    clear RL
    by_cases hlt : i < ql
    · generalize q.drop i = r at *
      generalize hrl : ql - i = rl at *
      have rl0 : 0 < rl := by omega
      have c72 := k0.out.cntAt (restS_length pd)
      have cm : Hid (cntS n pd % 64 = pd.length % 64) := cnt_mod n pd HN.out
      generalize hcn : cntS n pd = cn at *
      have CN : Hid (∀ x, (cn + x.length) % 18446744073709551616 = cntS n (pd ++ x)) := fun x => by rw [← hcn, cnt_on]
      clear hcn
      obtain ⟨l, hl⟩ : ∃ l, l = pd.length % 64 := ⟨_, rfl⟩
      have l64 : l < 64 := by omega
      have HL : Hid (pd.length % 64 = l) := hl.symm
      have ml : (cn : Int) % 64 = (l : Int) := by have := cm.out; omega
      clear hl
      have BR : Hid (By wr (.slice ra rl rc) r) := b1.out.up hb.out (Nat.le_refl _)
      have sl := slice_arr u_blk info_u8 .u64 ((cn : Int) % 64) w.heap.size 8 l ml l64
      have SL : Hid _ := sl
      have ML : Hid ((cn : Int) % 64 = (l : Int)) := ml
      clear sl cm ml
      have TH : Hid (wr.there w.heap.size (8 + l) (min r.length (64 - l))) := k0.out.there (by rw [cS_length _ _ _ (restS_length pd)]; omega)
      go_wp2_with (first | (simp only [SL.out]) | (refine wp_copyB rfl (.tmp 13) (.tmp 14) rfl w.heap.size (8 + l) (64 - l) (64 - l) (.slice ra rl rc) r rfl rfl BR.out (by rw [RL'.out]; exact rl0) TH.out ?_))
      intro w2 hw2
      have m0 : (r.take (64 - l)).length = min rl (64 - l) := by rw [List.length_take, RL'.out]; omega
      have K2 : Hid (Blk w2 w.heap.size (cS (wordsS H pd) (laidS pd (r.take (64 - l))) cn)) := by
        rw [hw2.out]
        exact k0.out.lay (by rw [HL.out, m0]; omega) (by rw [HL.out])
      have Z2 : Hid (Blk w2 (w.heap.size + 1) zS) := by
        rw [hw2.out]
        exact kz.out.apart (by omega)
      have B2 : Hid (Below w.heap.size w w2) := by
        rw [hw2.out]
        exact below_setCells _ _ _ hb.out (Nat.le_refl _)
      clear hw2 k0 kz hb TR SL TH BR c72
      have LX : Hid (∀ z ∈ laidS pd (r.take (64 - l)), z < 256) := laidS_low LD.out (fun z hz => LR.out z (List.mem_of_mem_take hz))
      have XL : (laidS pd (r.take (64 - l))).length = 64 := laidS_length _ _ (by rw [HL.out, m0]; omega)
      rw [RL'.out]
      have c72 := K2.out.cntAt XL
      have f72 := K2.out.fz 72
      have CX := CN.out (r.take (64 - l))
      rw [m0] at CX
      have XM : Hid ((r.take (64 - l)).length = min rl (64 - l)) := m0
      generalize hm : min rl (64 - l) = m at *
      have mr : m ≤ rl := by omega
      have CX' : IntKind.u64.wrap ((cn : Int) + (m : Int)) = ((cntS n (pd ++ r.take (64 - l)) : Nat) : Int) := by rw [← CX, IntKind.wrap_u64]; omega
      have RT : Hid (r.take (64 - l) = r.take m) := by
        have : r.take (64 - l) = r.take (min r.length (64 - l)) := by rw [Nat.min_comm, List.take_eq_take_iff]; omega
        rw [this, RL'.out, hm]
        exact rfl
      go_wp2_with (refine wp_cutB rfl (.tmp 16) (.tmp 17) rfl ra rl rc m .i64 _ r rfl RL'.out.symm rfl rfl (by rw [RL'.out]; exact mr) w b1.out ?_)
      intro v3 b3
      rw [QD.out] at b3
      have B3 : Hid (By w v3 (q.drop (i + m))) := b3
      have V3 : Hid (lenV v3 < rl) := by
        obtain ⟨_, _, e⟩ := b3.len
        rw [e]
        show (q.drop (i + m)).length < rl
        rw [List.length_drop, HQL.out]
        omega
      clear b3 b1
      have PM := PD.out m
      rw [← RT.out] at PM
      have PX : Hid (p ++ q.take (i + m) = pd ++ r.take (64 - l)) := PM
      have c2m : cntS n (pd ++ r.take (64 - l)) % 64 = (l + m) % 64 := by rw [cnt_mod n _ HN.out, List.length_append, XM.out]; have := HL.out; omega
      generalize r.take (64 - l) = x at *
      clear PM RT PD LR CX
      generalize hc2 : cntS n (pd ++ x) = c2 at *
      have C2 : Hid (cntS n (pd ++ x) = c2) := hc2
      clear hc2
      have K3 : Hid (Blk (w2.setCell ⟨w.heap.size, 72, none⟩ (.int .u64 (c2 : Int))) w.heap.size (cS (wordsS H pd) (laidS pd x) c2)) := K2.out.cnt XL c2 rfl
      have Z3 : Hid (Blk (w2.setCell ⟨w.heap.size, 72, none⟩ (.int .u64 (c2 : Int))) (w.heap.size + 1) zS) := Z2.out.apart1 (by omega)
      have D3 : Hid (Below w.heap.size w (w2.setCell ⟨w.heap.size, 72, none⟩ (.int .u64 (c2 : Int)))) := B2.out.setCell (Nat.le_refl _) _
      clear K2 Z2 B2 CN PE
      by_cases hfull : 64 - l ≤ rl
      · have lm : l + m = 64 := by omega
        have t1 : (c2 : Int) % 64 = 0 := by omega
        have LI : Hid _ := info_blk.trans (congrArg some (show 64 = ((laidS pd x).map b8).length by rw [List.length_map, XL]))
        have HXL : Hid _ := XL
        have LW : Hid _ := info_w8.trans (congrArg some (show 8 = ((wordsS H pd).list.map uw).length by simp [R8.list]))
        clear c2m XL
        have FR := full_rest pd x (by rw [HL.out, XM.out]; exact lm)
        have FW := full_words H pd x (by rw [HL.out, XM.out]; exact lm)
        rw [← PX.out] at FR FW C2
        have HFR : Hid _ := FR
        have HFW : Hid _ := FW
        clear FR FW
        generalize wordsS H pd = W at *
        generalize laidS pd x = bs at *
        go_wp2_with (first | refine wpList_load_mid rfl 99 (.tmp 29) rfl w.heap.size 0 rfl (W.list.map uw) _ K3.out.words u_w8 rfl LW.out ?_ | refine wpList_load_mid rfl 100 (.tmp 31) rfl w.heap.size 8 rfl (bs.map b8) _ K3.out.rest u_blk rfl LI.out ?_)
        refine (mix_fun W bs HXL.out LX.out _ (HT.out.up D3.out HT.out.pos)).mono ?_
        rintro e w4 ⟨rfl, hb4⟩
        have K4 : Hid (Blk w4 _ _) := K3.out.up hb4 K3.out.lt
        have Z4 : Hid (Blk w4 _ _) := Z3.out.up hb4 Z3.out.lt
        have D4 : Hid (Below w.heap.size w w4) := D3.out.trans (hb4.mono D3.out.size)
        clear hb4 K3 Z3 D3
        generalize mixS W bs = M at *
        have LM : Hid _ := info_w8.trans (congrArg some (show 8 = (M.list.map uw).length by simp [R8.list]))
        have T4 : Hid (w4.there w.heap.size 0 (M.list.map uw).length) := K4.out.there (by rw [cS_length _ _ _ HXL.out]; simp [R8.list])
        go_wp2_with (refine wp_store_eq rfl 99 (.tmp 34) (.tmp 33) rfl w.heap.size 0 (M.list.map uw) rfl rfl T4.out LM.out (one_uw _ U) ?_)
        intro w5 hw5
        have K5 : Hid (Blk w5 w.heap.size (cS M bs c2)) := by rw [hw5.out]; exact K4.out.setWords _
        have Z5 : Hid (Blk w5 (w.heap.size + 1) zS) := by rw [hw5.out]; exact Z4.out.apart (by omega)
        have D5 : Hid (Below w.heap.size w w5) := by rw [hw5.out]; exact below_setCells _ _ _ D4.out (Nat.le_refl _)
        clear hw5 K4 Z4 D4 LM T4
        obtain ⟨zz, hzz⟩ : ∃ zz, zz = List.replicate 64 0 := ⟨_, rfl⟩
        have ZZ : Hid (zz = List.replicate 64 0) := hzz
        have zl : zz.length = 64 := by rw [hzz]; simp
        have LN : Hid _ := info_blk.trans (congrArg some (show 64 = (zz.map b8).length by rw [List.length_map, zl]))
        have T5 : Hid (w5.there w.heap.size 8 (zz.map b8).length) := K5.out.there (by rw [cS_length _ _ _ HXL.out, List.length_map, zl]; omega)
        rw [← hzz] at HFR
        have ZL : Hid (zz.length = 64) := zl
        clear zl hzz
        go_wp2_with (first | refine wp_buildz rfl rfl zz ZZ.out ?_ | refine wp_store_eq rfl 100 (.tmp 36) (.tmp 35) rfl w.heap.size 8 (zz.map b8) rfl rfl T5.out LN.out (one_b8 _) ?_)
        intro w6 hw6
        have K6 : Hid (Blk w6 w.heap.size (cS M zz c2)) := by rw [hw6.out]; exact K5.out.setRest _ (by rw [HXL.out, ZL.out])
        have Z6 : Hid (Blk w6 (w.heap.size + 1) zS) := by rw [hw6.out]; exact Z5.out.apart (by omega)
        have D6 : Hid (Below w.heap.size w w6) := by rw [hw6.out]; exact below_setCells _ _ _ D5.out (Nat.le_refl _)
        clear hw6 K5 Z5 D5 LN T5
        go_wp2_with fail
        go_roundw
        case rel => exact ⟨i + m, by omega, B3, by rw [HFR.out, HFW.out, C2.out]; exact K6, Z6, D6⟩
        case measure => exact V3.out
      · have t1 : ¬ (c2 : Int) % 64 = 0 := by omega
        have t2 : ((c2 : Int) % 64 == 0) = false := by simpa using t1
        have FR := on_rest pd x (by rw [HL.out, XM.out]; omega)
        have FW := on_words H pd x (by rw [HL.out, XM.out]; omega)
        rw [← PX.out] at FR FW C2
        have HFR : Hid _ := FR
        have HFW : Hid _ := FW
        clear FR FW XL c2m
        go_wp2_with fail
        go_roundw
        case rel => exact ⟨i + m, by omega, B3, by rw [HFR.out, HFW.out, C2.out]; exact K3, Z3, D3⟩
        case measure => exact V3.out
    · obtain rfl : i = ql := by omega
      clear hlt hi
      have pe := PE.out (Nat.le_refl _)
      subst pe
      have I1 : Hid _ := info_state.trans (congrArg some (cS_length (wordsS H (p ++ q)) (restS (p ++ q)) (cntS n (p ++ q)) (restS_length _)).symm)
      obtain ⟨ds, hu, hr⟩ := u_state'
      have T1 : Hid (wr.there (w.heap.size + 1) 0 (cS (wordsS H (p ++ q)) (restS (p ++ q)) (cntS n (p ++ q))).length) := kz.out.there (by rw [cS_length _ _ _ (restS_length _), zS_length]; omega)
      go_wp2_with (first | refine wpList_load_mid rfl 102 (.tmp 2) rfl w.heap.size 0 rfl (cS (wordsS H (p ++ q)) (restS (p ++ q)) (cntS n (p ++ q))) _ k0.out.all hu hr I1.out ?_ | refine wp_store_eq rfl 102 (.tmp 4) (.tmp 37) rfl (w.heap.size + 1) 0 (cS (wordsS H (p ++ q)) (restS (p ++ q)) (cntS n (p ++ q))) rfl rfl T1.out I1.out (one_cS _ _ _) ?_)
      intro w2 hw2
      go_wp2_with fail
      refine bodyPost_ret (v := stV H n (p ++ q)) ?_ rfl ⟨rfl, ?_⟩
      · rw [hw2.out]
        exact results_cell (b := w.heap.size + 1) rfl rfl (World.rangeAt_setCells_same _ _ _ _ T1.out) hu hr I1.out
      · rw [hw2.out]
        exact below_setCells _ _ _ hb.out (by omega)
end Go.Proofs.YtdcpicbkemmakaaDoor

/- A drawn region whose operations each yield a value with a property that stays, and whose last operation, a store, waits for all others. -/
namespace Go.Proofs.YtdcpicbkemmakaaDoor
open Go.RowKit
section
variable {P : Program}
theorem wp_region_monoL {id : Nat} {Q : Exit → Act → World → Prop} {a : Act} {w : World} {l : List Oper} (m : Nat) (Φ : List MP) (A : (Nat → Value) → Act) (hm : P.follows .mixedOrders = true) (hS : monoB l = true) (hl : Φ.length = m) (hlm : l.length = m + 1) (hwa : (List.range m).all (fun i => waitsOn l m i) = true)
    (hA : ∀ vals, putsV l a vals l.length = A vals) (hst : StepsAll P l Φ A a w 0 (l.take m))
    (hlast : ∀ o, l[m]? = some o → ∀ vals w', Hid (Below w.heap.size w w') → FinAll vals w' 0 Φ → Region.wanted o (yielded l.toArray (A vals).tmps) = true ∧ ∀ K : Act → World → Prop, (∀ a' w'', Q .normal a' w'' → K a' w'') → o.wp P (A vals) w' K Q) :
    (Code.region id l.toArray true).wp P Q a w := by
  refine wp_region_any hm ?_
  simp only [monoB, List.all_eq_true, List.mem_range] at hS
  have hback : ∀ k o, l[k]? = some o → ∀ e ∈ o.after, Region.binds .any e = true → e.on < k := by
    intro k o ho e he hb
    have hlt : k < l.length := (List.getElem?_eq_some_iff.1 ho).1
    have := hS k hlt
    simp only [ho, Bool.and_eq_true, Array.all_eq_true_iff_forall_mem] at this
    simpa [hb] using this.1 e he
  have hdst : ∀ i j, i < j → j < l.length → ∀ d, dstL l i = some d → dstL l j ≠ some d := by
    intro i j hij hj d hd e
    have hlt : i < l.length := by omega
    have ho : l[i]? = some l[i] := List.getElem?_eq_getElem hlt
    have := hS i hlt
    simp only [ho, Bool.and_eq_true, List.all_eq_true, List.mem_range] at this
    have := this.2 j hj
    have hd' : l[i].dst = some d := by simpa [dstL, ho] using hd
    rw [hd', e] at this
    simp at this
    omega
  have core : ∀ (fuel : Nat) (U : List Nat) (listed : Array Bool) (vals : Nat → Value) (w1 : World), U.length ≤ fuel → listed.size = l.length → (∀ i, i < l.length → listed[i]? = some (decide (i ∉ U))) → (∀ i ∈ U, i < l.length) → U.Nodup → m ∈ U →
      (∀ i, i < m → i ∉ U → (Φ.getD i MP.any).p (vals i) w1) → (∀ i ∈ U, vals i = ownV l a i) → (∀ j o, l[j]? = some o → j ∉ U → ∀ e ∈ o.after, Region.binds .any e = true → e.on ∉ U) → Below w.heap.size w w1 → wpAny P .any l.toArray Q fuel listed (putsV l a vals l.length) w1 := by
    intro fuel
    induction fuel with
    | zero =>
      intro U listed vals w1 hU hs hl' hin hnd hmU hall hown hcl hb
      have : U = [] := List.length_eq_zero_iff.1 (by omega)
      subst this
      cases hmU
    | succ fuel ih =>
      intro U listed vals w1 hU hs hl' hin hnd hmU hall hown hcl hb
      refine ⟨fun h0 => ?_, fun i hi => ?_⟩
      · have : U = [] := by
          refine Classical.byContradiction fun hne => ?_
          obtain ⟨i0, hi0⟩ := List.exists_mem_of_ne_nil _ hne
          obtain ⟨i, hi, hmin⟩ : ∃ i, i ∈ U ∧ ∀ j, j < i → j ∉ U := by
            induction i0 using Nat.strongRecOn with
            | _ j ihj =>
              by_cases hex : ∃ q, q < j ∧ q ∈ U
              · obtain ⟨q, hq, hqU⟩ := hex
                exact ihj q hq hqU
              · exact ⟨j, hi0, fun q hq hqU => hex ⟨q, hq, hqU⟩⟩
          have hlt := hin i hi
          have : i ∈ Region.ready .any l.toArray listed := by
            rw [mem_ready]
            refine ⟨by simp [hl' i hlt, hi], l[i], by simp [hlt], fun e he hbi => ?_⟩
            have hon := hback i l[i] (List.getElem?_eq_getElem hlt) e he hbi
            simp [hl' e.on (by omega), hmin e.on hon]
          rw [h0] at this
          cases this
        subst this
        cases hmU
      · obtain ⟨hun, o, ho, hdep⟩ := mem_ready.1 hi
        have hlt : i < l.length := by simpa using (Array.getElem?_eq_some_iff.1 ho).1
        have ho' : l[i]? = some o := by simpa using ho
        have hiU : i ∈ U := by
          refine Classical.byContradiction fun hn => ?_
          simp [hl' i hlt, hn] at hun
        have hall' : ∀ e ∈ o.after, Region.binds .any e = true → e.on ∉ U := fun e he hbi hmm => by
          have hon := hback i o ho' e he hbi
          have h1 := hdep e he hbi
          simp [hl' e.on (by omega), hmm] at h1
        by_cases him : i = m
        · subst him
          have hno : ∀ j, j < i → j ∉ U := fun j hj hjU => by
            have h1 := List.all_eq_true.1 hwa j (List.mem_range.2 hj)
            unfold waitsOn at h1
            simp only [ho'] at h1
            obtain ⟨e, he, hb'⟩ := Array.any_eq_true'.1 h1
            simp only [Bool.and_eq_true, beq_iff_eq] at hb'
            exact hall' e he hb'.1 (by rw [hb'.2]; exact hjU)
          obtain ⟨h1, h2⟩ := hlast o ho' vals w1 hb (FinAll.of 0 Φ fun j hj => by rw [Nat.zero_add]; exact hall j (by omega) (hno j (by omega)))
          rw [← hA] at h1 h2
          unfold wpOp
          simp only [ho]
          rw [if_pos h1]
          refine .inl (h2 _ fun a' w'' hq => ?_)
          have hre : Region.ready .any l.toArray (listed.setIfInBounds i true) = [] := by
            refine List.eq_nil_iff_forall_not_mem.2 fun q hq' => ?_
            obtain ⟨h0, o', ho2, _⟩ := mem_ready.1 hq'
            have hq2 : q < l.length := by simpa using (Array.getElem?_eq_some_iff.1 ho2).1
            rw [Array.getD_eq_getD_getElem?, Array.getElem?_setIfInBounds] at h0
            by_cases e : i = q
            · subst e
              simp [hs, hlt] at h0
            · rw [if_neg e, hl' q hq2] at h0
              have : q ∉ U := hno q (by omega)
              simp [this] at h0
          cases fuel with
          | zero => exact ⟨hre, hq⟩
          | succ f => exact ⟨fun _ => hq, fun q hq' => by rw [hre] at hq'; cases hq'⟩
        have him' : i < m := by omega
        have st := StepsAll.at 0 (l.take m) hst i o (by rw [List.getElem?_take, if_pos him']; exact ho') vals w1 hb (show ∀ j, waitsOn l j (0 + i) = true → vals j = ownV l a j from fun j hj => by
          rw [Nat.zero_add] at hj
          unfold waitsOn at hj
          cases hoj : l[j]? with
          | none => simp [hoj] at hj
          | some oj =>
            simp only [hoj] at hj
            obtain ⟨e, he, hb'⟩ := Array.any_eq_true'.1 hj
            simp only [Bool.and_eq_true, beq_iff_eq] at hb'
            refine hown j (Classical.byContradiction fun hn => ?_)
            exact hcl j oj hoj hn e he hb'.1 (by rw [hb'.2]; exact hiU)) (fun e he hbi => by
          have hon := hback i o ho' e he hbi
          have h1 := hdep e he hbi
          refine hall e.on (by omega) fun hmU => ?_
          simp [hl' e.on (by omega), hmU] at h1)
        rw [Nat.zero_add, ← hA] at st
        unfold wpOp
        simp only [ho]
        rw [if_pos st.1]
        refine .inl (st.2.wp fun v w2 hv hb2 => ?_)
        have hd : o.dst = dstL l i := by simp [dstL, ho']
        rw [hd, putsV_upd l.length hlt (fun j h1 h2 d => hdst i j h1 h2 d)]
        have hlen : (U.erase i).length + 1 = U.length := by
          rw [List.length_erase_of_mem hiU]
          have := List.length_pos_of_mem hiU
          omega
        refine ih (U.erase i) _ _ w2 (by omega) (by simp [hs]) (fun j hj => ?_) (fun j hj => hin j (List.mem_of_mem_erase hj)) (hnd.erase i) ((List.mem_erase_of_ne (Ne.symm him)).2 hmU) (fun j hj hjn => ?_) (fun j hj => ?_) (fun j oj hoj hjn e he hbi hmm => ?_) (hb.trans (hb2.mono hb.size))
        · rw [Array.getElem?_setIfInBounds]
          by_cases e : i = j
          · subst e
            have : i ∉ U.erase i := fun hm => (List.Nodup.mem_erase_iff hnd).1 hm |>.1 rfl
            simp [this, hs, hlt]
          · rw [if_neg e, hl' j hj]
            simp [List.mem_erase_of_ne (Ne.symm e)]
        · by_cases e : j = i
          · subst e
            unfold updV
            rw [if_pos rfl]
            exact hv
          · unfold updV
            rw [if_neg e]
            exact (Φ.getD j MP.any).up (hall j hj fun hm => hjn ((List.mem_erase_of_ne e).2 hm)) hb2
        · have hne : j ≠ i := fun e => by
            subst e
            exact (List.Nodup.mem_erase_iff hnd).1 hj |>.1 rfl
          unfold updV
          rw [if_neg hne]
          exact hown j (List.mem_of_mem_erase hj)
        · have hmU := List.mem_of_mem_erase hmm
          by_cases e' : j = i
          · subst e'
            rw [ho'] at hoj
            cases hoj
            have h1 := hdep e he hbi
            have hon := hback j o ho' e he hbi
            simp [hl' e.on (by omega), hmU] at h1
          · exact hcl j oj hoj (fun hm => hjn ((List.mem_erase_of_ne e').2 hm)) e he hbi hmU
  have key := core l.length (List.range l.length) (Array.replicate l.length false) (ownV l a) { w with drawn := w.drawn + 1 } (by simp) (by simp) (fun i hi => by simp [hi]) (fun i hi => List.mem_range.1 hi) List.nodup_range (List.mem_range.2 (by omega)) (fun i hi hn => absurd (List.mem_range.2 (by omega)) hn) (fun _ _ => rfl) (fun j o hoj hn => absurd (List.mem_range.2 (List.getElem?_eq_some_iff.1 hoj).1) hn) ((Below.refl _ _).drew)
  rw [putsV_own] at key
  simpa using key
theorem wp_region_monoLE {id : Nat} {Q : Exit → Act → World → Prop} {a : Act} {w : World} {l : List Oper} (m : Nat) (Φ : List MP) (hm : P.follows .mixedOrders = true) (hS : monoB l = true) (hl : Φ.length = m) (hlm : l.length = m + 1) (hwa : (List.range m).all (fun i => waitsOn l m i) = true)
    (h : ∃ A, (∀ vals, putsV l a vals l.length = A vals) ∧ StepsAll P l Φ A a w 0 (l.take m) ∧
      (∀ o, l[m]? = some o → ∀ vals w', Hid (Below w.heap.size w w') → FinAll vals w' 0 Φ → Region.wanted o (yielded l.toArray (A vals).tmps) = true ∧ ∀ K : Act → World → Prop, (∀ a' w'', Q .normal a' w'' → K a' w'') → o.wp P (A vals) w' K Q)) :
    (Code.region id l.toArray true).wp P Q a w := by
  obtain ⟨A, h1, h2, h3⟩ := h
  exact wp_region_monoL m Φ A hm hS hl hlm hwa h1 h2 h3
end
end Go.Proofs.YtdcpicbkemmakaaDoor

/- The contracts of hash.New, hash.State.Sum and hash.Sum. -/
namespace Go.Proofs.YtdcpicbkemmakaaDoor
open Go.RowKit
set_option linter.unusedSimpArgs false
attribute [local go_sem] YieldsP execOp
attribute [local simp] MP.eq_p
theorem built_new : Tryd.prog.built 102 [(0, .agg #[.int .u32 1779033703, .int .u32 3144134277, .int .u32 1013904242, .int .u32 2773480762, .int .u32 1359893119, .int .u32 2600822924, .int .u32 528734635, .int .u32 1541459225])] = some (cS IV (List.replicate 64 0) 0).toArray := by kernel_rfl
theorem wp_buildn {ops : Array Oper} {rest : List Oper} {o : Oper} {act : Act} {Q : Exit → Act → World → Prop} {w : World} (hgd : o.guard = none) (x : Operand) (ho : o.op = .build 102 #[(0, x)]) (hx : act.eval x = .agg #[.int .u32 1779033703, .int .u32 3144134277, .int .u32 1013904242, .int .u32 2773480762, .int .u32 1359893119, .int .u32 2600822924, .int .u32 528734635, .int .u32 1541459225])
    (zz : List Value) (hz : Hid (zz = cS IV (List.replicate 64 0) 0))
    (h : wpList Tryd.prog ops Q rest (act.put o.dst (.agg zz.toArray)) w) : wpList Tryd.prog ops Q (o :: rest) act w := by
  have hz := hz.out
  subst hz
  refine wpList_plain hgd fun K hK => ?_
  have e : (Instr.build 102 ((#[(0, x)] : Array (Nat × Operand)).map fun x => (x.fst, act.eval x.snd))).run Tryd.prog w = .ok (.agg (cS IV (List.replicate 64 0) 0).toArray) w := run_build (P := Tryd.prog) w 102 _ _ (by simpa [hx] using built_new)
  unfold Oper.wp
  simp only [execOp, ho, Sem.run_bind, e, Result.andThen_ok, Sem.run_pure]
  exact hK _ _ h
theorem st_new : stV IV 0 [] = .agg (cS IV (List.replicate 64 0) 0).toArray := rfl
set_option maxRecDepth 20000 in
set_option maxHeartbeats 2000000 in
theorem new_fun (w : World) : Calls Tryd.prog 81 #[] w fun e w' => e = .returned (stV IV 0 []) ∧ Below w.heap.size w w' := by
  have SN : Hid _ := st_new
  obtain ⟨zz, hzz⟩ : ∃ zz, zz = cS IV (List.replicate 64 0) 0 := ⟨_, rfl⟩
  have zl : zz.length = 73 := by rw [hzz]; exact cS_length _ _ _ (by simp)
  have I1 : Hid _ := info_state.trans (congrArg some zl.symm)
  have O1 : Hid (∀ v ∈ zz, v.oneCell' = true) := by rw [hzz]; exact one_cS _ _ _
  rw [← hzz] at SN
  obtain ⟨ds, hu, hr⟩ := u_state'
  obtain ⟨x0, x1⟩ := al1 w zS.toArray 102
  have T1 : Hid (World.there (w.alloc (.cells zS.toArray 102)) w.heap.size 0 zz.length) := x0.there (by rw [zl, ← zS_length, Nat.zero_add]; exact Nat.le_refl _)
  have X1 : Hid (Below _ _ _) := x1
  have ZZ : Hid (zz = cS IV (List.replicate 64 0) 0) := hzz
  clear hzz zl x0 x1
  go_enter Tryd.func81, Tryd.ntmps81
  go_wp2_with (first | (simp only [zero_state]) | (refine wp_buildn rfl (.tmp 1) rfl rfl zz ZZ ?_) | (refine wp_store_eq rfl 102 (.tmp 0) (.tmp 2) rfl w.heap.size 0 zz rfl rfl T1.out I1.out O1.out ?_))
  intro w2 hw2
  go_wp2_with fail
  rw [SN.out]
  refine bodyPost_ret (v := .agg zz.toArray) ?_ rfl ⟨rfl, ?_⟩
  · rw [hw2.out]
    exact results_cell (b := w.heap.size) rfl rfl (World.rangeAt_setCells_same _ _ _ _ T1.out) hu hr I1.out
  · rw [hw2.out]
    exact below_setCells _ _ _ X1.out (Nat.le_refl _)
theorem yields_load {P : Program} {o : Oper} {a : Act} {w : World} {φ : Value → World → Prop} (ty : TypeId) (x : Operand) (ho : o.op = .load ty x) (b f : Nat) (hx : a.eval x = .pointer (some ⟨b, f, none⟩)) (cs : List Value) (d : TypeDesc) (hc : w.rangeAt b f cs) (hu : P.underlying ty = some d) (hd : d.isRow = true) (hi : (P.info? ty).map (·.size) = some cs.length)
    (h : φ (.agg cs.toArray) w) : YieldsP P o a w φ := by
  have e : (execOp a.eval o).run P w = .ok (.value (.agg cs.toArray)) w := by
    unfold execOp
    simp only [ho, hx, Instr.loadAt, Instr.sureAddr, Sem.run_bind, Sem.run_pure, Result.andThen_ok, run_loadVar_mid w b f ty cs d hc hu hd hi]
  unfold YieldsP
  rw [e]
  exact ⟨h, Below.refl _ _⟩
def MP.by (xs : List Nat) : MP := ⟨fun v w => By w v xs, fun h hb => h.up hb (Nat.le_refl _)⟩
/-- A variable that was made from block B on, and holds these cells. -/
def MP.own (B : Nat) (vs : List Value) : MP := ⟨fun v w => ∃ g, v = .pointer (some ⟨g, 0, none⟩) ∧ B ≤ g ∧ Blk w g vs, fun ⟨g, e, h, hb⟩ hk => ⟨g, e, h, hb.up hk hb.lt⟩⟩
theorem yields_state {o : Oper} {a : Act} {w : World} {B : Nat} (ho : o.op = .alloc 102) (hB : B ≤ w.heap.size) : YieldsP Tryd.prog o a w (MP.own B zS).p := by
  have e : (execOp a.eval o).run Tryd.prog w = .ok (.value (.pointer (some ⟨w.heap.size, 0, none⟩))) (w.alloc (.cells zS.toArray 102)) := by
    unfold execOp
    simp [ho, zero_state, Instr.alloc, newVar, Value.cells, go_sem] <;> rfl
  unfold YieldsP
  rw [e]
  exact ⟨⟨_, rfl, hB, Blk.al rfl rfl⟩, (Below.refl _ _).alloc (Nat.le_refl _) _⟩
/-- The first k bytes of a digest, the others 0. -/
def fillD (H : R8) (k : Nat) : List Nat := (List.range 32).map fun j => if j < k then dbyte H j else 0
theorem fillD_length (H : R8) (k : Nat) : (fillD H k).length = 32 := by simp [fillD]
theorem fillD_set (H : R8) (k : Nat) (h : k < 32) : (fillD H k).set k (dbyte H k) = fillD H (k + 1) := by
  apply List.ext_getElem?
  intro j
  rw [List.getElem?_set, fillD_length]
  by_cases hj : j < 32
  · have g := fun k => (by simp [fillD, hj] : (fillD H k)[j]? = some (if j < k then dbyte H j else 0))
    rw [g, g]
    by_cases e : k = j
    · subst e; simp [h]
    · rw [if_neg e]
      by_cases l : j < k
      · rw [if_pos l, if_pos (by omega)]
      · rw [if_neg l, if_neg (by omega)]
  · rw [List.getElem?_eq_none (by rw [fillD_length]; omega), List.getElem?_eq_none (by rw [fillD_length]; omega), if_neg (by omega)]
theorem fillD_all (H : R8) : fillD H 32 = digS H := by
  unfold fillD digS
  apply List.map_congr_left
  intro j hj
  rw [if_pos (List.mem_range.1 hj)]
theorem dbyte_key (H : R8) (k : Nat) (s : Nat) (hs : s = 24 - k % 4 * 8) : (U (H.list.getD (k / 4) 0) / 2 ^ s) % 256 = ((dbyte H k : Nat) : Int) := by
  unfold dbyte U
  rw [← hs, Nat.shiftRight_eq_div_pow]
  simp
theorem u_d32 : Tryd.prog.underlying 109 = some (.array 32 5) := by kernel_rfl
theorem info_d32 : (Tryd.prog.info? 109).map (·.size) = some 32 := by kernel_rfl
set_option maxRecDepth 20000 in
set_option maxHeartbeats 2000000 in
theorem sum_fun (H : R8) (n : Nat) (hn : n % 64 = 0) (p : List Nat) (lp : ∀ x ∈ p, x < 256) (w : World) (hT : KTab w) :
    Calls Tryd.prog 89 #[stV H n p] w fun e w' => e = .returned (vB (digS (wordsS H (p ++ padS (cntS n p))))) ∧ Below w.heap.size w w' := by
  have CL := cS_length (wordsS H p) (restS p) (cntS n p) (restS_length p)
  have I1 : Hid _ := info_state.trans (congrArg some CL.symm)
  have C72 : Hid (∀ W k, Blk W k (cS (wordsS H p) (restS p) (cntS n p)) → W.cell? ⟨k, 72, none⟩ = some (.int .u64 ((cntS n p : Nat) : Int))) := fun W k h => h.cntAt (restS_length p)
  have PF : Hid _ := pad_fun (cntS n p)
  have WF : Hid _ := write_core H n hn p (padS (cntS n p)) lp (padS_low _) (by rw [padS_length]; have := padZ_lt (cntS n p); omega)
  have SV : Hid (∀ q, stV H n q = .agg (cS (wordsS H q) (restS q) (cntS n q)).toArray) := fun q => rfl
  have HT : Hid (KTab w) := hT
  clear hT hn lp CL
  rw [SV.out]
  obtain ⟨ds, hu, hr⟩ := u_state'
  generalize cntS n p = cn at *
  generalize padS cn = pd at *
  have NL := cS_length (wordsS H (p ++ pd)) (restS (p ++ pd)) (cntS n (p ++ pd)) (restS_length _)
  have I2 : Hid _ := info_state.trans (congrArg some NL.symm)
  have HNL : Hid _ := NL
  rw [SV.out] at WF
  clear NL SV
  generalize restS (p ++ pd) = rq at *
  generalize cntS n (p ++ pd) = cq at *
  generalize wordsS H (p ++ pd) = Wq at *
  generalize cS (wordsS H p) (restS p) cn = C0 at *
  go_enter Tryd.func89, Tryd.ntmps89
  go_wp2_with fail
  obtain ⟨x0, x1, x2⟩ := al2 w C0.toArray #[Value.int IntKind.u8 0, Value.int IntKind.u8 0, Value.int IntKind.u8 0, Value.int IntKind.u8 0, Value.int IntKind.u8 0, Value.int IntKind.u8 0, Value.int IntKind.u8 0, Value.int IntKind.u8 0, Value.int IntKind.u8 0, Value.int IntKind.u8 0, Value.int IntKind.u8 0, Value.int IntKind.u8 0, Value.int IntKind.u8 0, Value.int IntKind.u8 0, Value.int IntKind.u8 0, Value.int IntKind.u8 0, Value.int IntKind.u8 0, Value.int IntKind.u8 0, Value.int IntKind.u8 0, Value.int IntKind.u8 0, Value.int IntKind.u8 0, Value.int IntKind.u8 0, Value.int IntKind.u8 0, Value.int IntKind.u8 0, Value.int IntKind.u8 0, Value.int IntKind.u8 0, Value.int IntKind.u8 0, Value.int IntKind.u8 0, Value.int IntKind.u8 0, Value.int IntKind.u8 0, Value.int IntKind.u8 0, Value.int IntKind.u8 0] 102 109
  have X0 : Hid (Blk _ _ _) := x0
  have X1 : Hid (Blk _ _ _) := x1
  have X2 : Hid (Below _ _ _) := x2
  clear x0 x1 x2
  generalize (w.alloc (Obj.cells C0.toArray 102)).alloc (Obj.cells #[Value.int IntKind.u8 0, Value.int IntKind.u8 0, Value.int IntKind.u8 0, Value.int IntKind.u8 0, Value.int IntKind.u8 0, Value.int IntKind.u8 0, Value.int IntKind.u8 0, Value.int IntKind.u8 0, Value.int IntKind.u8 0, Value.int IntKind.u8 0, Value.int IntKind.u8 0, Value.int IntKind.u8 0, Value.int IntKind.u8 0, Value.int IntKind.u8 0, Value.int IntKind.u8 0, Value.int IntKind.u8 0, Value.int IntKind.u8 0, Value.int IntKind.u8 0, Value.int IntKind.u8 0, Value.int IntKind.u8 0, Value.int IntKind.u8 0, Value.int IntKind.u8 0, Value.int IntKind.u8 0, Value.int IntKind.u8 0, Value.int IntKind.u8 0, Value.int IntKind.u8 0, Value.int IntKind.u8 0, Value.int IntKind.u8 0, Value.int IntKind.u8 0, Value.int IntKind.u8 0, Value.int IntKind.u8 0, Value.int IntKind.u8 0] 109) = w1 at *
  refine wp_region_monoLE 6 [MP.eq (.agg C0.toArray), MP.eq (.pointer (some ⟨w.heap.size, 72, none⟩)), MP.eq (.int .u64 (cn : Int)), MP.by pd, MP.eq (.agg (cS Wq rq cq).toArray), MP.own w1.heap.size zS] (by kernel_rfl) (by kernel_rfl) rfl rfl (by kernel_rfl) ?_
  apply Exists.intro
  refine ⟨fun vals => ?_, ⟨?_, ?_, ?_, ?_, ?_, ?_, trivial⟩, ?_⟩
  · simp only [putsV, dstL, List.length_cons, List.length_nil, Nat.zero_add, Nat.reduceAdd, List.getElem?_cons_zero, List.getElem?_cons_succ, Option.bind_some, Act.put, List.setIfInBounds_toArray, List.set_cons_succ, List.set_cons_zero]
    rfl
  · intro vals W hW hw hd
    refine ⟨rfl, yields_load 102 (.tmp 1) rfl w.heap.size 0 rfl C0 ds (X0.out.up hW.out X0.out.lt).all hu hr I1.out rfl⟩
  · intro vals W hW hw hd
    refine ⟨rfl, ?_⟩
    simp [go_sem, hd]
    exact Below.refl _ _
  · intro vals W hW hw hd
    try simp [Region.binds] at hd
    have c := C72.out W w.heap.size (X0.out.up hW.out X0.out.lt)
    refine ⟨rfl, ?_⟩
    simp [go_sem, hd, c]
    exact Below.refl _ _
  · intro vals W hW hw hd
    try simp [Region.binds] at hd
    refine ⟨rfl, ?_⟩
    simp [go_sem, hd]
    exact (PF.out W).mono fun e w' ⟨⟨v, he, ho⟩, hb⟩ => ⟨v, he, ho.by, hb⟩
  · intro vals W hW hw hd
    try simp [Region.binds] at hd
    obtain ⟨h0, h3⟩ := hd
    refine ⟨rfl, ?_⟩
    have TW : KTab W := HT.out.up (X2.out.trans (hW.out.mono X2.out.size)) HT.out.pos
    have WW := (WF.out (vals 3) W h3 TW).mono fun e w' (he : _ ∧ _) => (⟨_, he.1, rfl, he.2⟩ : ∃ v, e = .returned v ∧ v = .agg (cS Wq rq cq).toArray ∧ Below W.heap.size W w')
    rw [← h0] at WW
    simp [go_sem]
    exact WW
  · intro vals W hW hw hd
    exact ⟨rfl, yields_state rfl hW.out.size⟩
  intro o ho vals w2 hb2 hF
  obtain ⟨f0, f1, f2, f3, f4, ⟨g, f5, gB, gz⟩, _⟩ := hF
  simp only [MP.eq_p] at f0 f1 f2 f4
  obtain rfl := Option.some.inj ho.symm
  clear ho
  have T2 := gz.there (o := 0) (n := (cS Wq rq cq).length) (by rw [HNL.out, zS_length]; omega)
  refine ⟨rfl, fun K hK => wp_store_mid 102 (.tmp 3) (.tmp 10) rfl g 0 (cS Wq rq cq).toArray f5 f4 (by rw [List.size_toArray]; exact T2) (by rw [List.size_toArray]; exact I2.out) (all_oneCell_toArray (one_cS _ _ _)) (hK _ _ ?_)⟩
  have Y1 : Hid (Blk w2 _ _) := X1.out.up hb2.out X1.out.lt
  have k1 := X1.out.lt
  have D2 : Hid (Below w.heap.size w w2) := X2.out.trans (hb2.out.mono X2.out.size)
  have gB' : w.heap.size ≤ g := Nat.le_trans X2.out.size gB
  obtain ⟨k2, hk2⟩ : ∃ w3, w3 = w2.setCells g 0 (cS Wq rq cq) := ⟨_, rfl⟩
  rw [← hk2]
  have Y2 : Hid (Blk k2 (w.heap.size + 1) ((List.replicate 32 0).map b8)) := by rw [hk2]; exact Y1.out.apart (by omega)
  have D3 : Hid (Below w.heap.size w k2) := by rw [hk2]; exact below_setCells _ _ _ D2.out gB'
  have G2 : Hid (Blk k2 g (cS Wq rq cq)) := by
    rw [hk2]
    have : Blk w2 g ([] ++ (zS ++ [])) := by simpa using gz
    have := this.store (o := 0) (b' := cS Wq rq cq) rfl (by rw [HNL.out, zS_length])
    rw [List.nil_append, List.append_nil] at this
    exact this
  rw [f5, f4, f0, f1, f2]
  generalize vals 3 = v3
  clear hk2 Y1 D2 f0 f1 f2 f3 f4 f5 gz hb2 T2 X0 X1 WF PF C72 I1
  simp only [Act.put]
  go_wp2_with fail
  go_loopw [11] (fun i wr => ∃ k : Nat, k ≤ 32 ∧ i = .int .i64 k ∧ Hid (Blk wr g (cS Wq rq cq)) ∧ Hid (Blk wr (w.heap.size + 1) ((List.replicate 32 0).map b8)) ∧ Hid (Blk wr k2.heap.size ((fillD Wq k).map b8)) ∧ Hid (Below w.heap.size w wr)) (fun i _ => 32 - (intOf i).toNat)
  case atStart =>
    obtain ⟨y0, y1⟩ := al1 k2 _ _
    exact ⟨0, by omega, rfl, G2.out.up y1 G2.out.lt, Y2.out.up y1 Y2.out.lt, y0, D3.out.trans (y1.mono D3.out.size)⟩
  case round =>
    have g1 := G2.out.lt
    have g2 := Y2.out.lt
    have g3 := D3.out.size
    clear G2 Y2 D3
    have g4 : g ≠ k2.heap.size := by omega
    generalize k2.heap.size = kd at *
    obtain ⟨k, hk, rfl, bg, by_, bd, hb⟩ := hrel
    by_cases hlt : k < 32
    · have c1 := bg.out.cell (k / 4) (uw (Wq.list.getD (k / 4) 0)) (by
        rw [cS, List.getElem?_append_left (by simp [R8.list]; omega), List.getElem?_map]
        have : k / 4 < Wq.list.length := by simp [R8.list]; omega
        simp [List.getD_eq_getElem?_getD, List.getElem?_eq_getElem this])
      have c2 := bd.out.cell k (b8 ((fillD Wq k).getD k 0)) (by simp [List.getD_eq_getElem?_getD, fillD_length, hlt])
      have c3 := bd.out.fz k
      have DK : Hid _ := dbyte_key Wq k (24 - k % 4 * 8) rfl
      have FD : Hid _ := fillD_set Wq k hlt
      generalize Wq.list.getD (k / 4) 0 = xx at *
      generalize (fillD Wq k).getD k 0 = yy at *
      go_wp2_with fail
      rw [DK.out]
      have b1 := bd.out.set k (b8 (dbyte Wq k)) (by rw [List.length_map, fillD_length]; exact hlt)
      rw [← List.map_set, FD.out] at b1
      go_roundw
      case rel => exact ⟨k + 1, by omega, by go_num, bg.out.apart1 (by omega), by_.out.apart1 (by omega), b1, hb.out.setCell (by show w.heap.size ≤ kd; omega) _⟩
      case measure => simp [intOf]; omega
    · obtain rfl : k = 32 := by omega
      rw [fillD_all] at bd
      have ID : Hid _ := info_d32.trans (congrArg some (show 32 = ((digS Wq).map b8).length by rw [List.length_map, digS_length]))
      have T1 : Hid (wr.there (w.heap.size + 1) 0 ((digS Wq).map b8).length) := by_.out.there (by simp [digS_length])
      go_wp2_with (first | refine wpList_load_mid rfl 109 (.tmp 4) rfl kd 0 rfl ((digS Wq).map b8) _ bd.out.all u_d32 rfl ID.out ?_ | refine wp_store_eq rfl 109 (.tmp 2) (.tmp 28) rfl (w.heap.size + 1) 0 ((digS Wq).map b8) rfl rfl T1.out ID.out (one_b8 _) ?_)
      intro w5 hw5
      go_wp2_with fail
      refine bodyPost_ret (v := vB (digS Wq)) ?_ rfl ⟨rfl, ?_⟩
      · rw [hw5.out]
        exact results_cell (b := w.heap.size + 1) rfl rfl (World.rangeAt_setCells_same _ _ _ _ T1.out) u_d32 rfl ID.out
      · rw [hw5.out]
        exact below_setCells _ _ _ hb.out (by omega)
end Go.Proofs.YtdcpicbkemmakaaDoor
