/- HashExtends returns true for every two texts, where they hold together at most 1048576 values (the law appends them to each other). -/
import Derived.Test.YthaipnjnkkdfbaaDoorHResume
import Derived.Test.YthaipnjnkkdfbaaDoorHLaid
namespace Go.Proofs.YthaipnjnkkdfbaaDoor
open Go.RowKit
open Go.ChangeShapes Go.WideShapes Go.ChangeAt
set_option linter.unusedSimpArgs false
theorem wd4_bytes (x : BitVec 32) : wd4 (x.toNat >>> 24 % 256) (x.toNat >>> 16 % 256) (x.toNat >>> 8 % 256) (x.toNat % 256) = x := by
  apply BitVec.eq_of_toNat_eq
  have := x.isLt
  simp only [wd4, BitVec.toNat_ofNat, Nat.shiftRight_eq_div_pow, Nat.reducePow]
  omega
theorem wd_dig (H : R8) (j : Nat) (hj : j < 8) : wd (digS H) j = H.list.getD j 0 := by
  unfold wd
  rw [digS_get H _ (by omega), digS_get H _ (by omega), digS_get H _ (by omega), digS_get H _ (by omega)]
  unfold dbyte
  rw [show 4 * j / 4 = j by omega, show (4 * j + 1) / 4 = j by omega, show (4 * j + 2) / 4 = j by omega, show (4 * j + 3) / 4 = j by omega,
    show 24 - 4 * j % 4 * 8 = 24 by omega, show 24 - (4 * j + 1) % 4 * 8 = 16 by omega, show 24 - (4 * j + 2) % 4 * 8 = 8 by omega, show 24 - (4 * j + 3) % 4 * 8 = 0 by omega, Nat.shiftRight_zero]
  exact wd4_bytes _
theorem w8of_dig (H : R8) : w8of (digS H) = H := by
  unfold w8of
  rw [wd_dig H 0 (by omega), wd_dig H 1 (by omega), wd_dig H 2 (by omega), wd_dig H 3 (by omega), wd_dig H 4 (by omega), wd_dig H 5 (by omega), wd_dig H 6 (by omega), wd_dig H 7 (by omega)]
  rfl
theorem wordsS_append (H : R8) (a b : List Nat) (ha : a.length % 64 = 0) : wordsS H (a ++ b) = wordsS (wordsS H a) b := by
  unfold wordsS
  rw [List.length_append, show (a.length + b.length) / 64 = a.length / 64 + b.length / 64 by omega, absN_append _ _ _ _ _ (by omega)]
/-- Behind the pad of a text, its digest goes on. -/
theorem extends_eq (p q : List Nat) (hp : p.length < 18446744073709551616) : digS (wordsS (w8of (sumS p)) (q ++ padS (cntS (p.length + (padS p.length).length) q))) = sumS (p ++ padS p.length ++ q) := by
  have hc : cntS 0 p = p.length := by unfold cntS; omega
  have hf : (p ++ padS p.length).length % 64 = 0 := by rw [List.length_append]; exact padS_fills _
  unfold sumS
  rw [hc, w8of_dig, ← wordsS_append IV _ _ hf, ← List.append_assoc]
  have : cntS (p.length + (padS p.length).length) q = cntS 0 (p ++ padS p.length ++ q) := by
    unfold cntS
    rw [List.length_append, List.length_append]
    omega
  rw [this]
set_option maxRecDepth 20000 in
set_option maxHeartbeats 4000000 in
theorem hashExtends_law (v1 : Value) (p : List Nat) (lp : lowB p) (zp : p.length ≤ 1048576) (v2 : Value) (q : List Nat) (lq : lowB q) (zq : q.length ≤ 1048576) (w : World) (h1 : By w v1 p) (h2 : By w v2 q) (hT : KTab w) :
    Calls Tryd.prog 7 #[v1, v2] w fun e w' => e = .returned (.bool true) ∧ Below w.heap.size w w' := by
  obtain ⟨a1, c1, rfl⟩ := h1.len
  have pl : (padS p.length).length ≤ 72 := by rw [padS_length]; have := padZ_lt p.length; omega
  have fl := padS_fills p.length
  have lx : ∀ x ∈ p ++ (padS p.length ++ q), x < 256 := fun x hx => (List.mem_append.1 hx).elim (lp x) (fun h => (List.mem_append.1 h).elim (padS_low _ x) (lq x))
  have PF : Hid _ := pad_fun p.length
  have SP : Hid _ := hsum_fun p lp (by omega)
  have SA : Hid _ := hsum_fun (p ++ (padS p.length ++ q)) lx (by rw [List.length_append, List.length_append]; omega)
  have RS : Hid _ := resume_ok (sumS p) (sumS_length p) (digS_low _) (p.length + (padS p.length).length) (by omega) fl
  have WQ : Hid _ := write_fun (w8of (sumS p)) (p.length + (padS p.length).length) fl [] q (by simp) lq (by omega)
  have SQ : Hid (∀ w, KTab w → Calls Tryd.prog 14 #[stV (w8of (sumS p)) (p.length + (padS p.length).length) q] w fun e w' => e = .returned (vB (sumS (p ++ (padS p.length ++ q)))) ∧ Below w.heap.size w w') := by
    have := sum_fun (w8of (sumS p)) (p.length + (padS p.length).length) fl q lq
    rw [extends_eq p q (by omega), List.append_assoc] at this
    exact this
  rw [List.nil_append] at WQ
  have LS : Hid _ := sumS_length (p ++ (padS p.length ++ q))
  have HP : Hid (By w _ p) := h1
  have HQ : Hid (By w v2 q) := h2
  have HT : Hid (KTab w) := hT
  have TU : Hid (∀ w', Below w.heap.size w w' → KTab w') := fun w' hb => hT.up hb hT.pos
  have pos : 0 < (padS p.length).length := by rw [padS_length]; omega
  clear h1 h2 lp lq lx fl
  generalize padS p.length = x at *
  generalize w8of (sumS p) = Wp at *
  generalize hpl : p.length = m at *
  generalize hxl : x.length = xl at *
  have HPL : Hid (p.length = m) := hpl
  have HXL : Hid (x.length = xl) := hxl
  have HZ : Hid (q.length ≤ 1048576) := zq
  clear hpl hxl zq
  have nn : IntKind.u64.wrap ((m : Int) + (xl : Int)) = ((m + xl : Nat) : Int) := by rw [IntKind.wrap_u64]; omega
  go_enter Tryd.func7, Tryd.ntmps7
  go_wp2_with fail
  refine (hashes_fun w hT).mono ?_
  clear hT
  rintro e w1 ⟨rfl, hb1⟩
  have D1 : Hid (Below w.heap.size w w1) := hb1
  clear hb1
  go_wp2_with fail
  refine (PF.out _).mono ?_
  rintro e w2 ⟨⟨v5, rfl, ob2⟩, hb2⟩
  have D2 : Hid (Below w.heap.size w w2) := D1.out.trans (hb2.mono D1.out.size)
  obtain ⟨a5, c5, rfl⟩ := ob2.by.len
  rw [HXL.out] at ob2 ⊢
  have X2 : Hid (By w2 (.slice a5 xl c5) x) := ob2.by
  have P2 : Hid (By w2 _ p) := HP.out.up D2.out (Nat.le_refl _)
  have Q2 : Hid (By w2 v2 q) := HQ.out.up D2.out (Nat.le_refl _)
  clear ob2 hb2 D1
  go_wp2_with (refine wp_appB rfl (.tmp 15) (.tmp 16) rfl w2.heap.size _ _ [] p w2 rfl (Ob.nil _ _) (Below.refl _ _) rfl P2.out (by have := HPL.out; simp; omega) (Nat.le_refl _) ?_)
  intro va w3 ob3 _ hb3
  have O3 : Hid (Ob w3 w2.heap.size va p) := ob3
  have B3 : Hid (Below w2.heap.size w2 w3) := hb3
  clear ob3 hb3
  go_wp2_with (refine wp_appB rfl (.tmp 17) (.tmp 18) rfl w2.heap.size _ _ p x w3 rfl O3.out (Below.refl _ _) rfl (X2.out.up B3.out (Nat.le_refl _)) (by have := HPL.out; have := HXL.out; omega) B3.out.size ?_)
  intro va2 w4 ob4 _ hb4
  have O4 : Hid (Ob w4 w2.heap.size va2 (p ++ x)) := ob4
  have B4 : Hid (Below w2.heap.size w2 w4) := B3.out.trans hb4
  clear ob4 hb4 O3 B3
  go_wp2_with (refine wp_appB rfl (.tmp 19) (.tmp 20) rfl w2.heap.size _ _ (p ++ x) q w4 rfl O4.out (Below.refl _ _) rfl (Q2.out.up B4.out (Nat.le_refl _)) (by have := HPL.out; have := HXL.out; have := HZ.out; rw [List.length_append]; omega) B4.out.size ?_)
  intro va3 w5 ob5 _ hb5
  have A5 : Hid (By w5 va3 (p ++ (x ++ q))) := ob5.by
  have B5 : Hid (Below w2.heap.size w2 w5) := B4.out.trans hb5
  have D5 : Hid (Below w.heap.size w w5) := D2.out.trans (B5.out.mono D2.out.size)
  clear ob5 hb5 O4 B4 B5 D2 X2 P2 Q2
  go_wp2_with fail
  refine (SP.out _ w5 (HP.out.up D5.out (Nat.le_refl _)) (TU.out _ D5.out)).mono ?_
  rintro e w6 ⟨rfl, hb6⟩
  have D6 : Hid (Below w.heap.size w w6) := D5.out.trans (hb6.mono D5.out.size)
  have A6 : Hid (By w6 va3 (p ++ (x ++ q))) := A5.out.up hb6 (Nat.le_refl _)
  clear hb6 D5 A5
  go_wp2_with fail
  refine (RS.out _).mono ?_
  rintro e w7 ⟨rfl, hb7⟩
  have D7 : Hid (Below w.heap.size w w7) := D6.out.trans (hb7.mono D6.out.size)
  have A7 : Hid (By w7 va3 (p ++ (x ++ q))) := A6.out.up hb7 (Nat.le_refl _)
  clear hb7 D6 A6
  go_wp2_with (refine wp_mkS rfl rfl 7 (.tmp 33) rfl rfl rfl rfl Wp (m + xl) [] rfl rfl ?_)
  intro w8 s8 hb8
  have D8 : Hid (Below w.heap.size w w8) := D7.out.trans (hb8.mono D7.out.size)
  have A8 : Hid (By w8 va3 (p ++ (x ++ q))) := A7.out.up hb8 (Nat.le_refl _)
  have S8 : Hid (StAt w8 w7.heap.size Wp (m + xl) []) := s8
  clear hb8 s8 D7 A7
  generalize w7.heap.size = ks at *
  go_wp2_with (refine wp_ldS rfl (.tmp 7) rfl ks rfl S8.out ?_)
  refine (WQ.out v2 w8 (HQ.out.up D8.out (Nat.le_refl _)) (TU.out _ D8.out)).mono ?_
  rintro e w9 ⟨rfl, hb9⟩
  have D9 : Hid (Below w.heap.size w w9) := D8.out.trans (hb9.mono D8.out.size)
  have A9 : Hid (By w9 va3 (p ++ (x ++ q))) := A8.out.up hb9 (Nat.le_refl _)
  clear hb9 D8 A8 S8
  go_wp2_with fail
  refine (SQ.out w9 (TU.out _ D9.out)).mono ?_
  rintro e w10 ⟨rfl, hb10⟩
  have D10 : Hid (Below w.heap.size w w10) := D9.out.trans (hb10.mono D9.out.size)
  have A10 : Hid (By w10 va3 (p ++ (x ++ q))) := A9.out.up hb10 (Nat.le_refl _)
  clear hb10 D9 A9
  go_wp2_with fail
  refine (SA.out va3 w10 A10.out (TU.out _ D10.out)).mono ?_
  rintro e w11 ⟨rfl, hb11⟩
  have D11 : Hid (Below w.heap.size w w11) := D10.out.trans (hb11.mono D10.out.size)
  clear hb11 D10 A10
  go_wp2_with (refine wp_eqD rfl (.tmp 41) (.tmp 43) _ rfl (sumS (p ++ (x ++ q))) LS.out rfl rfl ?_)
  go_ret
  exact ⟨rfl, D11.out⟩
set_option maxRecDepth 100000 in
theorem hashExtends_met (os : Os) : laidMet Tryd.prog Rows.hashExtendsUptoRow.laid ((World.doorLaid Tryd.prog 14 os).forCall (fun _ _ => 0) ⟨#[], #[.slice none 0 0, .slice none 0 0], []⟩).memory := laidMet_of_run' 8 (by kernel_rfl) (by kernel_rfl)
set_option maxRecDepth 100000 in
theorem hashExtends_reads (os : Os) {H : Type} (enc : TypeId × Value → H) : ∃ places, DataW.whole enc Tryd.prog ((World.doorLaid Tryd.prog 14 os).forCall (fun _ _ => 0) ⟨#[], #[.slice none 0 0, .slice none 0 0], []⟩).memory Tryd.f7.params.toList Rows.hashExtendsSpec.vars false #[.slice none 0 0, .slice none 0 0].toList 8 = some ([.nil, .nil], [], places) := ⟨[], by kernel_rfl⟩
set_option maxRecDepth 100000 in
theorem hashExtends_lifted (os : Os) (started : os.Started) (H : Type) (enc : TypeId × Value → H) (F : Stop.Interp) :
    ReturnsInHanded {} Tryd.checked os 7 .any ((Rows.OpenSpec.upto Rows.hashExtendsSpec).preRow enc Tryd.prog Tryd.f7 Rows.hashExtendsUptoRow.domain false Rows.hashExtendsUptoRow.laid) (((Rows.OpenSpec.upto Rows.hashExtendsSpec).at F).post enc Tryd.prog Tryd.f7 false true false false) := by
  obtain ⟨places, hx⟩ := hashExtends_reads os enc
  refine returnsInHanded_of_row (C := Tryd.checked) (s := (Rows.OpenSpec.upto Rows.hashExtendsSpec)) Tryd.own started (by kernel_rfl) Tryd.func7
    (witness_row_at (enc := enc) (C := Tryd.checked) false (World.doorLaid Tryd.prog 14 os) #[.slice none 0 0, .slice none 0 0] rfl (by kernel_rfl) (by kernel_rfl) (by kernel_rfl)
      (OpenSpec.preRow_of_cond 8 hx (by kernel_rfl) (fun k hk => by cases hk; kernel_rfl) (by kernel_rfl) (hashExtends_met os))) ?_
  intro W base args ds gs before hval0 hW _ hcond hsz0 hL _ _
  have hval : ∀ (j : Nat) t v, Tryd.f7.params[j]? = some t → args[j]? = some v → Value.okWide Tryd.prog W .any base t v := hval0
  have hsz : (DataW.weightsEach Tryd.prog (Tryd.f7.params.toList ++ Rows.hashExtendsSpec.plain.varTypes Tryd.prog) (ds ++ gs)).all (· ≤ reachBytes) = true := hsz0
  have hW' := hW
  obtain ⟨p, q, hA0, hV, rfl, hfz, hnd⟩ := hW
  have hA : DataW.TrodAll enc Tryd.prog W 0 (fun _ => true) true Tryd.f7.params.toList args.toList ds p := hA0
  rw [Tryd.params7] at hA hval hsz
  obtain ⟨v0, v1, d0, d1, p0, p1, rfl, rfl, rfl, h0, h1⟩ := trodAll_two hA
  obtain ⟨rfl, rfl⟩ := trodVars_none hV
  have hbd := of_decide_eq_true (hcond _ rfl)
  simp only [Rows.uptoBulkAll, List.cons_append, List.nil_append] at hbd
  simp only [List.append_nil] at hW'
  have hlt : ∀ x ∈ p0 ++ p1, x.block < W.heap.size := fun x hx => by simpa using hW'.lt x (by simpa using hx)
  have hk0 : ∀ W' : World, Below W.heap.size W W' → DataW.Trod enc Tryd.prog W' 0 (fun b => decide (b < W.heap.size)) true 22 v0 d0 p0 := fun W' hn => Below.trod Tryd.laidOut (by kernel_rfl) (of_decide_eq_true (by kernel_rfl)) h0 hn (fun x hx => hlt x (by simp [hx]))
  obtain ⟨a0, n0, c0, rfl⟩ := okWide_slice Tryd.uBytes (hval 0 22 v0 rfl rfl)
  obtain ⟨fuel0, hf0⟩ := h0
  obtain ⟨l0, low0, hI0, len0⟩ := by_of_trod (u := .slice a0 n0 c0) (by simpa [Value.cells] using hf0)
  have z0 : l0.length ≤ 1048576 := by
    obtain ⟨a', c', e, _⟩ := hI0
    have en : n0 = l0.length := by cases e; rfl
    rw [← en]
    rcases len_of_trod (by simpa [Value.cells] using hf0) with ⟨_, h⟩ | ⟨es, sp, hd, h⟩
    · omega
    · simp only at hd
      subst hd
      have := bulk_le es sp
      omega
  have hk1 : ∀ W' : World, Below W.heap.size W W' → DataW.Trod enc Tryd.prog W' 0 (fun b => decide (b < W.heap.size)) true 22 v1 d1 p1 := fun W' hn => Below.trod Tryd.laidOut (by kernel_rfl) (of_decide_eq_true (by kernel_rfl)) h1 hn (fun x hx => hlt x (by simp [hx]))
  obtain ⟨a1, n1, c1, rfl⟩ := okWide_slice Tryd.uBytes (hval 1 22 v1 rfl rfl)
  obtain ⟨fuel1, hf1⟩ := h1
  obtain ⟨l1, low1, hI1, len1⟩ := by_of_trod (u := .slice a1 n1 c1) (by simpa [Value.cells] using hf1)
  have z1 : l1.length ≤ 1048576 := by
    obtain ⟨a', c', e, _⟩ := hI1
    have en : n1 = l1.length := by cases e; rfl
    rw [← en]
    rcases len_of_trod (by simpa [Value.cells] using hf1) with ⟨_, h⟩ | ⟨es, sp, hd, h⟩
    · omega
    · simp only at hd
      subst hd
      have := bulk_le es sp
      omega
  refine (hashExtends_law _ l0 low0 z0 _ l1 low1 z1 W hI0 hI1 (ktab_one hL)).mono fun e W' ⟨he, hg⟩ => ?_
  subst he
  exact ⟨_, rfl, _, _, _, [], _, [], hW', trodAll_mk1 (shut_bool Tryd.underlying4 _), trodAll_mk2 (hk0 _ hg) (hk1 _ hg), rfl, hg.frame _, fun h => by cases h⟩

theorem hashExtends_holds : Rows.HashExtendsUptoSaid :=
  OpenClaim.holds_of_cond 7 Tryd.f7 rfl rfl rfl rfl rfl rfl rfl ⟨rfl, rfl, rfl, rfl, rfl⟩ rfl rfl rfl rfl rfl (by kernel_rfl) Tryd.func7 (by kernel_rfl)
    (of_decide_eq_true (by kernel_rfl)) (by unfold Func.isWrapper; first | (rw [if_pos (by decide +kernel)]; kernel_rfl) | (rw [if_neg (by decide +kernel)]; exact ⟨rfl, rfl⟩))
    (fun os started H enc _ F => by rw [OpenClaim.pre_eq_preRow]; exact hashExtends_lifted os started H enc F)

theorem hashExtends_card : Rows.HashExtendsUptoCardSaid :=
  Claim7.holds_tied_plain_at .later [] _ _ _ _ hashExtends_holds (fun _ h => by cases h) (by kernel_rfl) (fun _ h => by cases h) hashExtendsUpto_row_tie rfl ⟨rfl, rfl⟩ (by kernel_rfl) rfl
    (fun f fn hf hfn => by
      obtain rfl : f = 7 := Option.some.inj ((show Tryd.prog.funcNamed "sealring/sealringkeep.HashExtends" = some 7 by kernel_rfl).symm.trans hf) |>.symm
      obtain rfl : fn = Tryd.f7 := (Option.some.inj (Tryd.func7.symm.trans hfn)).symm
      exact ⟨by kernel_rfl, fun j t ht => by
        rw [Tryd.params7] at ht
        have hm : t ∈ [22, 22] := by simpa using Array.mem_of_getElem? ht
        have hall : ([22, 22].all fun u => !Tryd.prog.wantsStandIn u) = true := by kernel_rfl
        exact (show Tryd.prog.wantsStandIn t = false by simpa using List.all_eq_true.1 hall t hm)⟩)
    (by kernel_rfl)
#print axioms hashExtends_card
end Go.Proofs.YthaipnjnkkdfbaaDoor
