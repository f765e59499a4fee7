/- MacPieces returns true for every key, every text and all cuts, where they hold together at most 1048576 values (the law makes a slice of the pieces). -/
import Derived.Test.YtfahnkcbjpknnaaDoorHPieces
import Derived.Test.YtfahnkcbjpknnaaDoorMLaw
namespace Go.Proofs.YtfahnkcbjpknnaaDoor
open Go.RowKit
open Go.ChangeShapes Go.WideShapes Go.ChangeAt
set_option linter.unusedSimpArgs false
theorem flatten_take_succ (ps : List (List Nat)) (k : Nat) (h : k < ps.length) : (ps.take (k + 1)).flatten = (ps.take k).flatten ++ ps.getD k [] := by
  rw [List.take_succ_eq_append_getElem h, List.flatten_append]
  simp [List.getD_eq_getElem?_getD, h]
theorem part_low {p : List Nat} (lp : ∀ x ∈ p, x < 256) {ps : List (List Nat)} (hf : ps.flatten = p) (j : Nat) : ∀ x ∈ ps.getD j [], x < 256 := by
  intro x hx
  rw [List.getD_eq_getElem?_getD] at hx
  rcases Nat.lt_or_ge j ps.length with h | h
  · rw [List.getElem?_eq_getElem h] at hx
    exact lp x (by rw [← hf]; exact List.mem_flatten.2 ⟨_, List.getElem_mem h, hx⟩)
  · rw [List.getElem?_eq_none h] at hx
    cases hx
theorem front_low {p : List Nat} (lp : ∀ x ∈ p, x < 256) {ps : List (List Nat)} (hf : ps.flatten = p) (k : Nat) : ∀ x ∈ (ps.take k).flatten, x < 256 := by
  intro x hx
  obtain ⟨l, hl, hx⟩ := List.mem_flatten.1 hx
  exact lp x (by rw [← hf]; exact List.mem_flatten.2 ⟨l, List.mem_of_mem_take hl, hx⟩)
theorem part_len {p : List Nat} {ps : List (List Nat)} (hf : ps.flatten = p) (j : Nat) : (ps.getD j []).length ≤ p.length := by
  rw [List.getD_eq_getElem?_getD]
  rcases Nat.lt_or_ge j ps.length with h | h
  · rw [List.getElem?_eq_getElem h, ← hf]
    exact (List.sublist_flatten_of_mem (List.getElem_mem h)).length_le
  · rw [List.getElem?_eq_none h]; exact Nat.zero_le _
set_option maxRecDepth 20000 in
set_option maxHeartbeats 4000000 in
theorem macPieces_law (v0 : Value) (key : List Nat) (lk : lowB key) (zk : key.length ≤ 1048576) (v1 : Value) (p : List Nat) (lp : lowB p) (zp : p.length ≤ 1048576) (v2 : Value) (zs : List Int) (lz : lowZ zs) (zz : zs.length ≤ 1048576) (w : World) (h0 : By w v0 key) (h1 : By w v1 p) (h2 : Iy w v2 zs) (hT : KTab w) :
    Calls Tryd.prog 4 #[v0, v1, v2] w fun e w' => e = .returned (.bool true) ∧ Below w.heap.size w w' := by
  have PF : Hid _ := pieces_fun p zp zs lz zz v1 v2 w h1
  have HK : Hid (By w v0 key) := h0
  have HP : Hid (By w v1 p) := h1
  have HZ : Hid (Iy w v2 zs) := h2
  have LP : Hid (lowB p) := lp
  have ZP : Hid (p.length ≤ 1048576) := zp
  have TU : Hid (∀ w', Below w.heap.size w w' → KTab w') := fun w' hb => hT.up hb hT.pos
  have LK : Hid _ := fitS_low lk
  have NW : Hid _ := mnew_fun key lk (by omega) v0
  have SP : Hid (∀ w, KTab w → Calls Tryd.prog 10 #[mV (fitS key) p] w fun e w' => e = .returned (vB (markS key p)) ∧ Below w.heap.size w w') := msum_fun (fitS key) (fitS_low lk) p lp
  have MP_ : Hid _ := marks_fun key p lk (by omega) lp (by omega) v0 v1
  have LS : Hid ((markS key p).length = 32) := markK_length _ _
  clear h0 h1 h2 lp lz zz zp lk zk
  generalize markS key p = mk at *
  generalize fitS key = K at *
  go_enter Tryd.func4, Tryd.ntmps4
  go_wp2_with fail
  refine (macs_fun w hT).mono ?_
  clear hT
  rintro e w1 ⟨rfl, hb1⟩
  have D1 : Hid (Below w.heap.size w w1) := hb1
  clear hb1
  go_wp2_with fail
  refine (NW.out w1 (HK.out.up D1.out (Nat.le_refl _)) (TU.out _ D1.out)).mono ?_
  rintro e w2 ⟨rfl, hb2⟩
  have D2 : Hid (Below w.heap.size w w2) := D1.out.trans (hb2.mono D1.out.size)
  clear hb2 D1 NW
  go_wp2_with (refine wp_mkM rfl rfl 7 (.tmp 13) rfl rfl rfl rfl K [] rfl rfl ?_)
  intro w3 s3 hb3
  have D3 : Hid (Below w.heap.size w w3) := D2.out.trans (hb3.mono D2.out.size)
  have k5 : w.heap.size ≤ w2.heap.size := D2.out.size
  have S3 : Hid (MAt w3 w2.heap.size K []) := s3
  have k6 : w2.heap.size < w3.heap.size := S3.out.lt
  clear hb3 s3 D2
  generalize w2.heap.size = ks at *
  go_wp2_with fail
  refine (PF.out w3 (HZ.out.up D3.out (Nat.le_refl _))).mono ?_
  rintro e w4 ⟨⟨v4, rfl, us, ps, o4, pc, hf, ul, ul2⟩, hb4⟩
  obtain ⟨g, c, L, rfl, hg, hL, hcell⟩ := o4.form ul
  have D4 : Hid (Below w.heap.size w w4) := D3.out.trans (hb4.mono D3.out.size)
  have S4 : Hid (MAt w4 ks K []) := S3.out.up hb4 S3.out.lt
  have HC : Hid (∀ j, j < us.length → L[j]? = some (us.getD j undef)) := hcell
  have GL : Hid (Blk w4 g L) := hL
  have PC : Hid (∀ j, j < us.length → By w (us.getD j undef) (ps.getD j [])) := pc.at_
  have PL : Hid (ps.length = us.length) := pc.len
  have HF : Hid (ps.flatten = p) := hf
  have gk : g ≠ ks := by omega
  clear hb4 hcell pc hf o4 D3 S3 PF HZ hg hL
  generalize hul : us.length = n at *
  clear hul
  go_wp2_with fail
  go_loopw [18] (fun i wr => ∃ k : Nat, k ≤ n ∧ i = .int .i64 k ∧ Hid (MAt wr ks K (ps.take k).flatten) ∧ Hid (Blk wr g L) ∧ Hid (Below w.heap.size w wr)) (fun i _ => n - (intOf i).toNat)
  case atStart => exact ⟨0, by omega, rfl, by simpa using S4, GL, D4⟩
  case round =>
    clear S4 GL D4
    obtain ⟨k, hk, rfl, st, gl, hb⟩ := hrel
    by_cases hlt : k < n
    · have c0 := gl.out.cell k _ (HC.out k hlt)
      have bk : Hid (By w _ _) := PC.out k hlt
      have WK : Hid _ := mwrite_fun K LK.out (ps.take k).flatten (ps.getD k []) (front_low LP.out HF.out k) (part_low LP.out HF.out k) (Nat.le_trans (part_len HF.out k) (by have := ZP.out; omega))
      rw [← flatten_take_succ ps k (by rw [PL.out]; exact hlt)] at WK
      generalize ps.getD k [] = pk at *
      generalize us.getD k undef = uk at *
      go_wp2_with (refine wp_ldM rfl (.tmp 7) rfl ks rfl st.out ?_)
      refine (WK.out uk wr (bk.out.up hb.out (Nat.le_refl _)) (TU.out _ hb.out)).mono ?_
      rintro e w5 ⟨rfl, hb5⟩
      have D5 : Hid (Below w.heap.size w w5) := hb.out.trans (hb5.mono hb.out.size)
      have S5 : Hid (MAt w5 ks K (ps.take k).flatten) := st.out.up hb5 st.out.lt
      have G5 : Hid (Blk w5 g L) := gl.out.up hb5 gl.out.lt
      clear hb5 st gl hb WK
      go_wp2_with (refine wp_stM rfl (.tmp 7) (.tmp 24) rfl ks rfl K (ps.take (k + 1)).flatten rfl _ S5.out (mC_length _ _) ?_)
      intro w6 s6 b6 a6
      have D6 : Hid (Below w.heap.size w w6) := b6 _ _ D5.out k5
      have S6 : Hid (MAt w6 ks K (ps.take (k + 1)).flatten) := s6
      have G6 : Hid (Blk w6 g L) := a6 _ _ gk G5.out
      clear s6 b6 a6 D5 S5 G5
      go_wp2_with fail
      go_roundw
      case rel => exact ⟨k + 1, by omega, by go_num, S6, G6, D6⟩
      case measure => simp [intOf]; omega
    · obtain rfl : k = n := by omega
      rw [← PL.out, List.take_length, HF.out] at st
      clear hlt hk
      go_wp2_with (refine wp_ldM rfl (.tmp 7) rfl ks rfl st.out ?_)
      refine (SP.out wr (TU.out _ hb.out)).mono ?_
      rintro e w5 ⟨rfl, hb5⟩
      have D5 : Hid (Below w.heap.size w w5) := hb.out.trans (hb5.mono hb.out.size)
      clear hb5 hb st gl
      go_wp2_with fail
      refine (MP_.out w5 (HK.out.up D5.out (Nat.le_refl _)) (HP.out.up D5.out (Nat.le_refl _)) (TU.out _ D5.out)).mono ?_
      rintro e w6 ⟨rfl, hb6⟩
      have D6 : Hid (Below w.heap.size w w6) := D5.out.trans (hb6.mono D5.out.size)
      clear hb6 D5
      go_wp2_with (refine wp_eqD rfl (.tmp 27) (.tmp 30) _ rfl mk LS.out rfl rfl ?_)
      go_ret
      exact ⟨rfl, D6.out⟩
set_option maxRecDepth 100000 in
theorem macPieces_met (os : Os) : laidMet Tryd.prog Rows.macPiecesUptoRow.laid ((World.doorLaid Tryd.prog 14 os).forCall (fun _ _ => 0) ⟨#[], #[.slice none 0 0, .slice none 0 0, .slice none 0 0], []⟩).memory := laidMet_of_run' 8 (by kernel_rfl) (by kernel_rfl)
set_option maxRecDepth 100000 in
theorem macPieces_reads (os : Os) {H : Type} (enc : TypeId × Value → H) : ∃ places, DataW.whole enc Tryd.prog ((World.doorLaid Tryd.prog 14 os).forCall (fun _ _ => 0) ⟨#[], #[.slice none 0 0, .slice none 0 0, .slice none 0 0], []⟩).memory Tryd.f4.params.toList Rows.macPiecesSpec.vars false #[.slice none 0 0, .slice none 0 0, .slice none 0 0].toList 8 = some ([.nil, .nil, .nil], [], places) := ⟨[], by kernel_rfl⟩
set_option maxRecDepth 100000 in
theorem macPieces_lifted (os : Os) (started : os.Started) (H : Type) (enc : TypeId × Value → H) (F : Stop.Interp) :
    ReturnsInHanded {} Tryd.checked os 4 .any ((Rows.OpenSpec.upto Rows.macPiecesSpec).preRow enc Tryd.prog Tryd.f4 Rows.macPiecesUptoRow.domain false Rows.macPiecesUptoRow.laid) (((Rows.OpenSpec.upto Rows.macPiecesSpec).at F).post enc Tryd.prog Tryd.f4 false true false false) := by
  obtain ⟨places, hx⟩ := macPieces_reads os enc
  refine returnsInHanded_of_row (C := Tryd.checked) (s := (Rows.OpenSpec.upto Rows.macPiecesSpec)) Tryd.own started (by kernel_rfl) Tryd.func4
    (witness_row_at (enc := enc) (C := Tryd.checked) false (World.doorLaid Tryd.prog 14 os) #[.slice none 0 0, .slice none 0 0, .slice none 0 0] rfl (by kernel_rfl) (by kernel_rfl) (by kernel_rfl)
      (OpenSpec.preRow_of_cond 8 hx (by kernel_rfl) (fun k hk => by cases hk; kernel_rfl) (by kernel_rfl) (macPieces_met os))) ?_
  intro W base args ds gs before hval0 hW _ hcond hsz0 hL _ _
  have hval : ∀ (j : Nat) t v, Tryd.f4.params[j]? = some t → args[j]? = some v → Value.okWide Tryd.prog W .any base t v := hval0
  have hsz : (DataW.weightsEach Tryd.prog (Tryd.f4.params.toList ++ Rows.macPiecesSpec.plain.varTypes Tryd.prog) (ds ++ gs)).all (· ≤ reachBytes) = true := hsz0
  have hW' := hW
  obtain ⟨p, q, hA0, hV, rfl, hfz, hnd⟩ := hW
  have hA : DataW.TrodAll enc Tryd.prog W 0 (fun _ => true) true Tryd.f4.params.toList args.toList ds p := hA0
  rw [Tryd.params4] at hA hval hsz
  obtain ⟨v0, v1, v2, d0, d1, d2, p0, p1, p2, rfl, rfl, rfl, h0, h1, h2⟩ := trodAll_three hA
  obtain ⟨rfl, rfl⟩ := trodVars_none hV
  have hbd := of_decide_eq_true (hcond _ rfl)
  simp only [Rows.uptoBulkAll, List.cons_append, List.nil_append] at hbd
  simp only [List.append_nil] at hW'
  have hlt : ∀ x ∈ p0 ++ p1 ++ p2, x.block < W.heap.size := fun x hx => by simpa using hW'.lt x (by simpa using hx)
  have hk0 : ∀ W' : World, Below W.heap.size W W' → DataW.Trod enc Tryd.prog W' 0 (fun b => decide (b < W.heap.size)) true 22 v0 d0 p0 := fun W' hn => Below.trod Tryd.laidOut (by kernel_rfl) (of_decide_eq_true (by kernel_rfl)) h0 hn (fun x hx => hlt x (by simp [hx]))
  obtain ⟨a0, n0, c0, rfl⟩ := okWide_slice Tryd.uBytes (hval 0 22 v0 rfl rfl)
  obtain ⟨fuel0, hf0⟩ := h0
  obtain ⟨l0, low0, hI0, len0⟩ := by_of_trod (u := .slice a0 n0 c0) (by simpa [Value.cells] using hf0)
  have z0 : l0.length ≤ 1048576 := by
    obtain ⟨a', c', e, _⟩ := hI0
    have en : n0 = l0.length := by cases e; rfl
    rw [← en]
    rcases len_of_trod (by simpa [Value.cells] using hf0) with ⟨_, h⟩ | ⟨es, sp, hd, h⟩
    · omega
    · simp only at hd
      subst hd
      have := bulk_le es sp
      omega
  have hk1 : ∀ W' : World, Below W.heap.size W W' → DataW.Trod enc Tryd.prog W' 0 (fun b => decide (b < W.heap.size)) true 22 v1 d1 p1 := fun W' hn => Below.trod Tryd.laidOut (by kernel_rfl) (of_decide_eq_true (by kernel_rfl)) h1 hn (fun x hx => hlt x (by simp [hx]))
  obtain ⟨a1, n1, c1, rfl⟩ := okWide_slice Tryd.uBytes (hval 1 22 v1 rfl rfl)
  obtain ⟨fuel1, hf1⟩ := h1
  obtain ⟨l1, low1, hI1, len1⟩ := by_of_trod (u := .slice a1 n1 c1) (by simpa [Value.cells] using hf1)
  have z1 : l1.length ≤ 1048576 := by
    obtain ⟨a', c', e, _⟩ := hI1
    have en : n1 = l1.length := by cases e; rfl
    rw [← en]
    rcases len_of_trod (by simpa [Value.cells] using hf1) with ⟨_, h⟩ | ⟨es, sp, hd, h⟩
    · omega
    · simp only at hd
      subst hd
      have := bulk_le es sp
      omega
  have hk2 : ∀ W' : World, Below W.heap.size W W' → DataW.Trod enc Tryd.prog W' 0 (fun b => decide (b < W.heap.size)) true 38 v2 d2 p2 := fun W' hn => Below.trod Tryd.laidOut (by kernel_rfl) (of_decide_eq_true (by kernel_rfl)) h2 hn (fun x hx => hlt x (by simp [hx]))
  obtain ⟨a2, n2, c2, rfl⟩ := okWide_slice uInts (hval 2 38 v2 rfl rfl)
  obtain ⟨fuel2, hf2⟩ := h2
  obtain ⟨l2, low2, hI2⟩ := is_of_trod (u := .slice a2 n2 c2) (by simpa [Value.cells] using hf2)
  have z2 : l2.length ≤ 1048576 := by
    obtain ⟨a', c', e, _⟩ := hI2
    have en : n2 = l2.length := by cases e; rfl
    rw [← en]
    rcases ilen_of_trod (by simpa [Value.cells] using hf2) with ⟨_, h⟩ | ⟨es, sp, hd, h⟩
    · omega
    · simp only at hd
      subst hd
      have := bulk_le es sp
      omega
  refine (macPieces_law _ l0 low0 z0 _ l1 low1 z1 _ l2 low2 z2 W hI0 hI1 hI2 (ktab_one hL)).mono fun e W' ⟨he, hg⟩ => ?_
  subst he
  exact ⟨_, rfl, _, _, _, [], _, [], hW', trodAll_mk1 (shut_bool Tryd.underlying4 _), trodAll_mk3 (hk0 _ hg) (hk1 _ hg) (hk2 _ hg), rfl, hg.frame _, fun h => by cases h⟩

theorem macPieces_holds : Rows.MacPiecesUptoSaid :=
  OpenClaim.holds_of_cond 4 Tryd.f4 rfl rfl rfl rfl rfl rfl rfl ⟨rfl, rfl, rfl, rfl, rfl⟩ rfl rfl rfl rfl rfl (by kernel_rfl) Tryd.func4 (by kernel_rfl)
    (of_decide_eq_true (by kernel_rfl)) (by unfold Func.isWrapper; first | (rw [if_pos (by decide +kernel)]; kernel_rfl) | (rw [if_neg (by decide +kernel)]; exact ⟨rfl, rfl⟩))
    (fun os started H enc _ F => by rw [OpenClaim.pre_eq_preRow]; exact macPieces_lifted os started H enc F)

theorem macPieces_card : Rows.MacPiecesUptoCardSaid :=
  Claim7.holds_tied_plain_at .later [] _ _ _ _ macPieces_holds (fun _ h => by cases h) (by kernel_rfl) (fun _ h => by cases h) macPiecesUpto_row_tie rfl ⟨rfl, rfl⟩ (by kernel_rfl) rfl
    (fun f fn hf hfn => by
      obtain rfl : f = 4 := Option.some.inj ((show Tryd.prog.funcNamed "sealring/sealringkeep.MacPieces" = some 4 by kernel_rfl).symm.trans hf) |>.symm
      obtain rfl : fn = Tryd.f4 := (Option.some.inj (Tryd.func4.symm.trans hfn)).symm
      exact ⟨by kernel_rfl, fun j t ht => by
        rw [Tryd.params4] at ht
        have hm : t ∈ [22, 22, 38] := by simpa using Array.mem_of_getElem? ht
        have hall : ([22, 22, 38].all fun u => !Tryd.prog.wantsStandIn u) = true := by kernel_rfl
        exact (show Tryd.prog.wantsStandIn t = false by simpa using List.all_eq_true.1 hall t hm)⟩)
    (by kernel_rfl)
#print axioms macPieces_card
end Go.Proofs.YtfahnkcbjpknnaaDoor
