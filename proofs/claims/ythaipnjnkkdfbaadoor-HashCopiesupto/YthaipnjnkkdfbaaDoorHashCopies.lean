/- HashCopies returns true for every three texts, where they hold together at most 1048576 values (the law appends them to each other). -/
import Derived.Test.YthaipnjnkkdfbaaDoorHLaw
import Derived.Test.YthaipnjnkkdfbaaDoorHLaid
namespace Go.Proofs.YthaipnjnkkdfbaaDoor
open Go.RowKit
open Go.ChangeShapes Go.WideShapes Go.ChangeAt
set_option linter.unusedSimpArgs false
set_option maxRecDepth 20000 in
set_option maxHeartbeats 4000000 in
theorem hashCopies_law (v1 : Value) (p : List Nat) (lp : lowB p) (zp : p.length ≤ 1048576) (v2 : Value) (q : List Nat) (lq : lowB q) (zq : q.length ≤ 1048576) (v3 : Value) (r : List Nat) (lr : lowB r) (zr : r.length ≤ 1048576) (w : World) (h1 : By w v1 p) (h2 : By w v2 q) (h3 : By w v3 r) (hT : KTab w) :
    Calls Tryd.prog 6 #[v1, v2, v3] w fun e w' => e = .returned (.bool true) ∧ Below w.heap.size w w' := by
  have HP : Hid (By w v1 p) := h1
  have HQ : Hid (By w v2 q) := h2
  have HR : Hid (By w v3 r) := h3
  have HT : Hid (KTab w) := hT
  have WP : Hid _ := write_fun IV 0 rfl [] p (by simp) lp (by omega)
  rw [List.nil_append] at WP
  have WQ : Hid _ := write_fun IV 0 rfl p q lp lq (by omega)
  have WR : Hid _ := write_fun IV 0 rfl p r lp lr (by omega)
  have lpq : ∀ x ∈ p ++ q, x < 256 := fun x hx => (List.mem_append.1 hx).elim (lp x) (lq x)
  have lpr : ∀ x ∈ p ++ r, x < 256 := fun x hx => (List.mem_append.1 hx).elim (lp x) (lr x)
  have SP : Hid (∀ w, KTab w → Calls Tryd.prog 14 #[stV IV 0 p] w fun e w' => e = .returned (vB (sumS p)) ∧ Below w.heap.size w w') := sum_fun IV 0 rfl p lp
  have SQ : Hid (∀ w, KTab w → Calls Tryd.prog 14 #[stV IV 0 (p ++ q)] w fun e w' => e = .returned (vB (sumS (p ++ q))) ∧ Below w.heap.size w w') := sum_fun IV 0 rfl _ lpq
  have SR : Hid (∀ w, KTab w → Calls Tryd.prog 14 #[stV IV 0 (p ++ r)] w fun e w' => e = .returned (vB (sumS (p ++ r))) ∧ Below w.heap.size w w') := sum_fun IV 0 rfl _ lpr
  have MP_ : Hid _ := hsum_fun p lp (by omega)
  have MQ : Hid _ := hsum_fun (p ++ q) lpq (by rw [List.length_append]; omega)
  have MR : Hid _ := hsum_fun (p ++ r) lpr (by rw [List.length_append]; omega)
  have LP := sumS_length p
  have LQ := sumS_length (p ++ q)
  have LR := sumS_length (p ++ r)
  have TU : Hid (∀ w', Below w.heap.size w w' → KTab w') := fun w' hb => hT.up hb hT.pos
  have ZZ : Hid (p.length + q.length ≤ 140737488355328 ∧ p.length + r.length ≤ 140737488355328 ∧ p.length ≤ 140737488355328) := ⟨by omega, by omega, by omega⟩
  clear h1 h2 h3 lp lq lr lpq lpr zp zq zr
  have HL : Hid _ := And.intro LP (And.intro LQ LR)
  clear LP LQ LR
  go_enter Tryd.func6, Tryd.ntmps6
  go_wp2_with fail
  refine (hashes_fun w hT).mono ?_
  clear hT
  rintro e w1 ⟨rfl, hb1⟩
  have D1 : Hid (Below w.heap.size w w1) := hb1
  clear hb1
  go_wp2_with fail
  refine (new_fun _).mono ?_
  rintro e w2 ⟨rfl, hb2⟩
  have D2 : Hid (Below w.heap.size w w2) := D1.out.trans (hb2.mono D1.out.size)
  clear hb2 D1
  go_wp2_with fail
  refine (WP.out v1 w2 (HP.out.up D2.out (Nat.le_refl _)) (TU.out _ D2.out)).mono ?_
  rintro e w3 ⟨rfl, hb3⟩
  have D3 : Hid (Below w.heap.size w w3) := D2.out.trans (hb3.mono D2.out.size)
  clear hb3 D2 WP
  go_wp2_with (refine wp_mkS rfl rfl 7 (.tmp 15) rfl rfl rfl rfl IV 0 p rfl rfl ?_)
  intro w4 s4 hb4
  have D4 : Hid (Below w.heap.size w w4) := D3.out.trans (hb4.mono D3.out.size)
  have k7 : w.heap.size ≤ w3.heap.size := D3.out.size
  have S4 : Hid (StAt w4 w3.heap.size IV 0 p) := s4
  clear hb4 s4 D3
  generalize w3.heap.size = ks at *
  go_wp2_with (first | refine wp_ldS rfl (.tmp 7) rfl ks rfl S4.out ?_ | refine wp_mkS rfl rfl 8 (.tmp 16) rfl rfl rfl rfl IV 0 p rfl rfl ?_)
  intro w5 t5 hb5
  have D5 : Hid (Below w.heap.size w w5) := D4.out.trans (hb5.mono D4.out.size)
  have kk : ks < w4.heap.size := S4.out.lt
  have S5 : Hid (StAt w5 ks IV 0 p) := S4.out.up hb5 S4.out.lt
  have T5 : Hid (StAt w5 w4.heap.size IV 0 p) := t5
  clear hb5 t5 D4 S4
  generalize w4.heap.size = kt at *
  go_wp2_with (refine wp_ldS rfl (.tmp 7) rfl ks rfl S5.out ?_)
  refine (WQ.out v2 w5 (HQ.out.up D5.out (Nat.le_refl _)) (TU.out _ D5.out)).mono ?_
  rintro e w6 ⟨rfl, hb6⟩
  have D6 : Hid (Below w.heap.size w w6) := D5.out.trans (hb6.mono D5.out.size)
  have S6 : Hid (StAt w6 ks IV 0 p) := S5.out.up hb6 S5.out.lt
  have T6 : Hid (StAt w6 kt IV 0 p) := T5.out.up hb6 T5.out.lt
  clear hb6 D5 S5 T5 WQ
  go_wp2_with (refine wp_stS rfl (.tmp 7) (.tmp 19) rfl ks rfl IV 0 (p ++ q) rfl _ S6.out (cS_length _ _ _ (restS_length _)) ?_)
  intro w7 s7 b7 a7
  have D7 : Hid (Below w.heap.size w w7) := b7 _ _ D6.out k7
  have S7 : Hid (StAt w7 ks IV 0 (p ++ q)) := s7
  have T7 : Hid (StAt w7 kt IV 0 p) := a7 _ _ (by omega) T6.out
  clear s7 b7 a7 D6 S6 T6
  go_wp2_with (refine wp_ldS rfl (.tmp 8) rfl kt rfl T7.out ?_)
  refine (SP.out w7 (TU.out _ D7.out)).mono ?_
  rintro e w8 ⟨rfl, hb8⟩
  have D8 : Hid (Below w.heap.size w w8) := D7.out.trans (hb8.mono D7.out.size)
  have S8 : Hid (StAt w8 ks IV 0 (p ++ q)) := S7.out.up hb8 S7.out.lt
  have T8 : Hid (StAt w8 kt IV 0 p) := T7.out.up hb8 T7.out.lt
  clear hb8 D7 S7 T7 SP
  go_wp2_with fail
  refine (MP_.out v1 w8 (HP.out.up D8.out (Nat.le_refl _)) (TU.out _ D8.out)).mono ?_
  rintro e w9 ⟨rfl, hb9⟩
  have D9 : Hid (Below w.heap.size w w9) := D8.out.trans (hb9.mono D8.out.size)
  have S9 : Hid (StAt w9 ks IV 0 (p ++ q)) := S8.out.up hb9 S8.out.lt
  have T9 : Hid (StAt w9 kt IV 0 p) := T8.out.up hb9 T8.out.lt
  clear hb9 D8 S8 T8 MP_
  go_wp2_with (first | refine wp_neD rfl (.tmp 21) (.tmp 23) _ rfl (sumS p) HL.out.1 rfl rfl ?_ | refine wp_ldS rfl (.tmp 8) rfl kt rfl T9.out ?_)
  refine (WR.out v3 w9 (HR.out.up D9.out (Nat.le_refl _)) (TU.out _ D9.out)).mono ?_
  rintro e w10 ⟨rfl, hb10⟩
  have D10 : Hid (Below w.heap.size w w10) := D9.out.trans (hb10.mono D9.out.size)
  have S10 : Hid (StAt w10 ks IV 0 (p ++ q)) := S9.out.up hb10 S9.out.lt
  have T10 : Hid (StAt w10 kt IV 0 p) := T9.out.up hb10 T9.out.lt
  clear hb10 D9 S9 T9 WR
  have k8 : w.heap.size ≤ kt := by omega
  go_wp2_with (refine wp_stS rfl (.tmp 8) (.tmp 27) rfl kt rfl IV 0 (p ++ r) rfl _ T10.out (cS_length _ _ _ (restS_length _)) ?_)
  intro w11 t11 b11 a11
  have D11 : Hid (Below w.heap.size w w11) := b11 _ _ D10.out k8
  have T11 : Hid (StAt w11 kt IV 0 (p ++ r)) := t11
  have S11 : Hid (StAt w11 ks IV 0 (p ++ q)) := a11 _ _ (by omega) S10.out
  have P11 : Hid (By w11 v1 p) := HP.out.up D11.out (Nat.le_refl _)
  have Q11 : Hid (By w11 v2 q) := HQ.out.up D11.out (Nat.le_refl _)
  have R11 : Hid (By w11 v3 r) := HR.out.up D11.out (Nat.le_refl _)
  clear t11 b11 a11 D10 S10 T10
  go_wp2_with (refine wp_appB rfl (.tmp 28) (.tmp 29) rfl w11.heap.size _ _ [] p w11 rfl (Ob.nil _ _) (Below.refl _ _) rfl P11.out (by have := ZZ.out; simp; omega) (Nat.le_refl _) ?_)
  intro va w12 ob12 _ hb12
  have O12 : Hid (Ob w12 w11.heap.size va p) := ob12
  have B12 : Hid (Below w11.heap.size w11 w12) := hb12
  clear ob12 hb12
  go_wp2_with (refine wp_appB rfl (.tmp 30) (.tmp 31) rfl w11.heap.size _ _ p q w12 rfl O12.out (Below.refl _ _) rfl (Q11.out.up B12.out (Nat.le_refl _)) (ZZ.out.1) B12.out.size ?_)
  intro va2 w13 ob13 _ hb13
  have O13 : Hid (By w13 va2 (p ++ q)) := ob13.by
  have B13 : Hid (Below w11.heap.size w11 w13) := B12.out.trans hb13
  clear ob13 hb13 O12 B12
  have P13 : Hid (By w13 v1 p) := P11.out.up B13.out (Nat.le_refl _)
  have R13 : Hid (By w13 v3 r) := R11.out.up B13.out (Nat.le_refl _)
  have S13 : Hid (StAt w13 ks IV 0 (p ++ q)) := S11.out.up B13.out S11.out.lt
  have T13 : Hid (StAt w13 kt IV 0 (p ++ r)) := T11.out.up B13.out T11.out.lt
  have D13 : Hid (Below w.heap.size w w13) := D11.out.trans (B13.out.mono D11.out.size)
  clear P11 Q11 R11 S11 T11 D11 B13
  go_wp2_with (refine wp_appB rfl (.tmp 33) (.tmp 34) rfl w13.heap.size _ _ [] p w13 rfl (Ob.nil _ _) (Below.refl _ _) rfl P13.out (by have := ZZ.out; simp; omega) (Nat.le_refl _) ?_)
  intro vb w14 ob14 _ hb14
  have O14 : Hid (Ob w14 w13.heap.size vb p) := ob14
  have B14 : Hid (Below w13.heap.size w13 w14) := hb14
  clear ob14 hb14
  go_wp2_with (refine wp_appB rfl (.tmp 35) (.tmp 36) rfl w13.heap.size _ _ p r w14 rfl O14.out (Below.refl _ _) rfl (R13.out.up B14.out (Nat.le_refl _)) (ZZ.out.2.1) B14.out.size ?_)
  intro vb2 w15 ob15 _ hb15
  have Y15 : Hid (By w15 vb2 (p ++ r)) := ob15.by
  have B15 : Hid (Below w13.heap.size w13 w15) := B14.out.trans hb15
  have X15 : Hid (By w15 va2 (p ++ q)) := O13.out.up B15.out (Nat.le_refl _)
  have S15 : Hid (StAt w15 ks IV 0 (p ++ q)) := S13.out.up B15.out S13.out.lt
  have T15 : Hid (StAt w15 kt IV 0 (p ++ r)) := T13.out.up B15.out T13.out.lt
  have D15 : Hid (Below w.heap.size w w15) := D13.out.trans (B15.out.mono D13.out.size)
  clear ob15 hb15 O14 B14 P13 R13 S13 T13 D13 B15 O13
  go_wp2_with (refine wp_ldS rfl (.tmp 7) rfl ks rfl S15.out ?_)
  refine (SQ.out w15 (TU.out _ D15.out)).mono ?_
  rintro e w16 ⟨rfl, hb⟩
  have D16 : Hid (Below w.heap.size w w16) := D15.out.trans (hb.mono D15.out.size)
  have X16 : Hid (By w16 va2 (p ++ q)) := X15.out.up hb (Nat.le_refl _)
  have Y16 : Hid (By w16 vb2 (p ++ r)) := Y15.out.up hb (Nat.le_refl _)
  have S16 : Hid (StAt w16 ks IV 0 (p ++ q)) := S15.out.up hb S15.out.lt
  have T16 : Hid (StAt w16 kt IV 0 (p ++ r)) := T15.out.up hb T15.out.lt
  clear hb X15 Y15 S15 T15 D15
  go_wp2_with fail
  refine (MQ.out va2 w16 X16.out (TU.out _ D16.out)).mono ?_
  rintro e w17 ⟨rfl, hb⟩
  have D17 : Hid (Below w.heap.size w w17) := D16.out.trans (hb.mono D16.out.size)
  have X17 : Hid (By w17 va2 (p ++ q)) := X16.out.up hb (Nat.le_refl _)
  have Y17 : Hid (By w17 vb2 (p ++ r)) := Y16.out.up hb (Nat.le_refl _)
  have S17 : Hid (StAt w17 ks IV 0 (p ++ q)) := S16.out.up hb S16.out.lt
  have T17 : Hid (StAt w17 kt IV 0 (p ++ r)) := T16.out.up hb T16.out.lt
  clear hb X16 Y16 S16 T16 D16
  go_wp2_with (first | refine wp_eqD rfl (.tmp 39) (.tmp 41) _ rfl (sumS (p ++ q)) HL.out.2.1 rfl rfl ?_ | refine wp_ldS rfl (.tmp 8) rfl kt rfl T17.out ?_)
  refine (SR.out w17 (TU.out _ D17.out)).mono ?_
  rintro e w18 ⟨rfl, hb⟩
  have D18 : Hid (Below w.heap.size w w18) := D17.out.trans (hb.mono D17.out.size)
  have X18 : Hid (By w18 va2 (p ++ q)) := X17.out.up hb (Nat.le_refl _)
  have Y18 : Hid (By w18 vb2 (p ++ r)) := Y17.out.up hb (Nat.le_refl _)
  have S18 : Hid (StAt w18 ks IV 0 (p ++ q)) := S17.out.up hb S17.out.lt
  clear hb X17 Y17 S17 T17 D17
  go_wp2_with fail
  refine (MR.out vb2 w18 Y18.out (TU.out _ D18.out)).mono ?_
  rintro e w19 ⟨rfl, hb⟩
  have D19 : Hid (Below w.heap.size w w19) := D18.out.trans (hb.mono D18.out.size)
  have X19 : Hid (By w19 va2 (p ++ q)) := X18.out.up hb (Nat.le_refl _)
  have S19 : Hid (StAt w19 ks IV 0 (p ++ q)) := S18.out.up hb S18.out.lt
  clear hb X18 Y18 S18 D18
  go_wp2_with (first | refine wp_eqD rfl (.tmp 45) (.tmp 47) _ rfl (sumS (p ++ r)) HL.out.2.2 rfl rfl ?_ | refine wp_ldS rfl (.tmp 7) rfl ks rfl S19.out ?_)
  refine (SQ.out w19 (TU.out _ D19.out)).mono ?_
  rintro e w20 ⟨rfl, hb⟩
  have D20 : Hid (Below w.heap.size w w20) := D19.out.trans (hb.mono D19.out.size)
  have X20 : Hid (By w20 va2 (p ++ q)) := X19.out.up hb (Nat.le_refl _)
  clear hb X19 S19 D19
  go_wp2_with fail
  refine (MQ.out va2 w20 X20.out (TU.out _ D20.out)).mono ?_
  rintro e w21 ⟨rfl, hb⟩
  have D21 : Hid (Below w.heap.size w w21) := D20.out.trans (hb.mono D20.out.size)
  clear hb X20 D20
  go_wp2_with (refine wp_eqD rfl (.tmp 52) (.tmp 54) _ rfl (sumS (p ++ q)) HL.out.2.1 rfl rfl ?_)
  go_ret
  exact ⟨rfl, D21.out⟩
set_option maxRecDepth 100000 in
theorem hashCopies_met (os : Os) : laidMet Tryd.prog Rows.hashCopiesUptoRow.laid ((World.doorLaid Tryd.prog 14 os).forCall (fun _ _ => 0) ⟨#[], #[.slice none 0 0, .slice none 0 0, .slice none 0 0], []⟩).memory := laidMet_of_run' 8 (by kernel_rfl) (by kernel_rfl)
set_option maxRecDepth 100000 in
theorem hashCopies_reads (os : Os) {H : Type} (enc : TypeId × Value → H) : ∃ places, DataW.whole enc Tryd.prog ((World.doorLaid Tryd.prog 14 os).forCall (fun _ _ => 0) ⟨#[], #[.slice none 0 0, .slice none 0 0, .slice none 0 0], []⟩).memory Tryd.f6.params.toList Rows.hashCopiesSpec.vars false #[.slice none 0 0, .slice none 0 0, .slice none 0 0].toList 8 = some ([.nil, .nil, .nil], [], places) := ⟨[], by kernel_rfl⟩
set_option maxRecDepth 100000 in
theorem hashCopies_lifted (os : Os) (started : os.Started) (H : Type) (enc : TypeId × Value → H) (F : Stop.Interp) :
    ReturnsInHanded {} Tryd.checked os 6 .any ((Rows.OpenSpec.upto Rows.hashCopiesSpec).preRow enc Tryd.prog Tryd.f6 Rows.hashCopiesUptoRow.domain false Rows.hashCopiesUptoRow.laid) (((Rows.OpenSpec.upto Rows.hashCopiesSpec).at F).post enc Tryd.prog Tryd.f6 false true false false) := by
  obtain ⟨places, hx⟩ := hashCopies_reads os enc
  refine returnsInHanded_of_row (C := Tryd.checked) (s := (Rows.OpenSpec.upto Rows.hashCopiesSpec)) Tryd.own started (by kernel_rfl) Tryd.func6
    (witness_row_at (enc := enc) (C := Tryd.checked) false (World.doorLaid Tryd.prog 14 os) #[.slice none 0 0, .slice none 0 0, .slice none 0 0] rfl (by kernel_rfl) (by kernel_rfl) (by kernel_rfl)
      (OpenSpec.preRow_of_cond 8 hx (by kernel_rfl) (fun k hk => by cases hk; kernel_rfl) (by kernel_rfl) (hashCopies_met os))) ?_
  intro W base args ds gs before hval0 hW _ hcond hsz0 hL _ _
  have hval : ∀ (j : Nat) t v, Tryd.f6.params[j]? = some t → args[j]? = some v → Value.okWide Tryd.prog W .any base t v := hval0
  have hsz : (DataW.weightsEach Tryd.prog (Tryd.f6.params.toList ++ Rows.hashCopiesSpec.plain.varTypes Tryd.prog) (ds ++ gs)).all (· ≤ reachBytes) = true := hsz0
  have hW' := hW
  obtain ⟨p, q, hA0, hV, rfl, hfz, hnd⟩ := hW
  have hA : DataW.TrodAll enc Tryd.prog W 0 (fun _ => true) true Tryd.f6.params.toList args.toList ds p := hA0
  rw [Tryd.params6] at hA hval hsz
  obtain ⟨v0, v1, v2, d0, d1, d2, p0, p1, p2, rfl, rfl, rfl, h0, h1, h2⟩ := trodAll_three hA
  obtain ⟨rfl, rfl⟩ := trodVars_none hV
  have hbd := of_decide_eq_true (hcond _ rfl)
  simp only [Rows.uptoBulkAll, List.cons_append, List.nil_append] at hbd
  simp only [List.append_nil] at hW'
  have hlt : ∀ x ∈ p0 ++ p1 ++ p2, x.block < W.heap.size := fun x hx => by simpa using hW'.lt x (by simpa using hx)
  have hk0 : ∀ W' : World, Below W.heap.size W W' → DataW.Trod enc Tryd.prog W' 0 (fun b => decide (b < W.heap.size)) true 22 v0 d0 p0 := fun W' hn => Below.trod Tryd.laidOut (by kernel_rfl) (of_decide_eq_true (by kernel_rfl)) h0 hn (fun x hx => hlt x (by simp [hx]))
  obtain ⟨a0, n0, c0, rfl⟩ := okWide_slice Tryd.uBytes (hval 0 22 v0 rfl rfl)
  obtain ⟨fuel0, hf0⟩ := h0
  obtain ⟨l0, low0, hI0, len0⟩ := by_of_trod (u := .slice a0 n0 c0) (by simpa [Value.cells] using hf0)
  have z0 : l0.length ≤ 1048576 := by
    obtain ⟨a', c', e, _⟩ := hI0
    have en : n0 = l0.length := by cases e; rfl
    rw [← en]
    rcases len_of_trod (by simpa [Value.cells] using hf0) with ⟨_, h⟩ | ⟨es, sp, hd, h⟩
    · omega
    · simp only at hd
      subst hd
      have := bulk_le es sp
      omega
  have hk1 : ∀ W' : World, Below W.heap.size W W' → DataW.Trod enc Tryd.prog W' 0 (fun b => decide (b < W.heap.size)) true 22 v1 d1 p1 := fun W' hn => Below.trod Tryd.laidOut (by kernel_rfl) (of_decide_eq_true (by kernel_rfl)) h1 hn (fun x hx => hlt x (by simp [hx]))
  obtain ⟨a1, n1, c1, rfl⟩ := okWide_slice Tryd.uBytes (hval 1 22 v1 rfl rfl)
  obtain ⟨fuel1, hf1⟩ := h1
  obtain ⟨l1, low1, hI1, len1⟩ := by_of_trod (u := .slice a1 n1 c1) (by simpa [Value.cells] using hf1)
  have z1 : l1.length ≤ 1048576 := by
    obtain ⟨a', c', e, _⟩ := hI1
    have en : n1 = l1.length := by cases e; rfl
    rw [← en]
    rcases len_of_trod (by simpa [Value.cells] using hf1) with ⟨_, h⟩ | ⟨es, sp, hd, h⟩
    · omega
    · simp only at hd
      subst hd
      have := bulk_le es sp
      omega
  have hk2 : ∀ W' : World, Below W.heap.size W W' → DataW.Trod enc Tryd.prog W' 0 (fun b => decide (b < W.heap.size)) true 22 v2 d2 p2 := fun W' hn => Below.trod Tryd.laidOut (by kernel_rfl) (of_decide_eq_true (by kernel_rfl)) h2 hn (fun x hx => hlt x (by simp [hx]))
  obtain ⟨a2, n2, c2, rfl⟩ := okWide_slice Tryd.uBytes (hval 2 22 v2 rfl rfl)
  obtain ⟨fuel2, hf2⟩ := h2
  obtain ⟨l2, low2, hI2, len2⟩ := by_of_trod (u := .slice a2 n2 c2) (by simpa [Value.cells] using hf2)
  have z2 : l2.length ≤ 1048576 := by
    obtain ⟨a', c', e, _⟩ := hI2
    have en : n2 = l2.length := by cases e; rfl
    rw [← en]
    rcases len_of_trod (by simpa [Value.cells] using hf2) with ⟨_, h⟩ | ⟨es, sp, hd, h⟩
    · omega
    · simp only at hd
      subst hd
      have := bulk_le es sp
      omega
  refine (hashCopies_law _ l0 low0 z0 _ l1 low1 z1 _ l2 low2 z2 W hI0 hI1 hI2 (ktab_one hL)).mono fun e W' ⟨he, hg⟩ => ?_
  subst he
  exact ⟨_, rfl, _, _, _, [], _, [], hW', trodAll_mk1 (shut_bool Tryd.underlying4 _), trodAll_mk3 (hk0 _ hg) (hk1 _ hg) (hk2 _ hg), rfl, hg.frame _, fun h => by cases h⟩

theorem hashCopies_holds : Rows.HashCopiesUptoSaid :=
  OpenClaim.holds_of_cond 6 Tryd.f6 rfl rfl rfl rfl rfl rfl rfl ⟨rfl, rfl, rfl, rfl, rfl⟩ rfl rfl rfl rfl rfl (by kernel_rfl) Tryd.func6 (by kernel_rfl)
    (of_decide_eq_true (by kernel_rfl)) (by unfold Func.isWrapper; first | (rw [if_pos (by decide +kernel)]; kernel_rfl) | (rw [if_neg (by decide +kernel)]; exact ⟨rfl, rfl⟩))
    (fun os started H enc _ F => by rw [OpenClaim.pre_eq_preRow]; exact hashCopies_lifted os started H enc F)

theorem hashCopies_card : Rows.HashCopiesUptoCardSaid :=
  Claim7.holds_tied_plain_at .later [] _ _ _ _ hashCopies_holds (fun _ h => by cases h) (by kernel_rfl) (fun _ h => by cases h) hashCopiesUpto_row_tie rfl ⟨rfl, rfl⟩ (by kernel_rfl) rfl
    (fun f fn hf hfn => by
      obtain rfl : f = 6 := Option.some.inj ((show Tryd.prog.funcNamed "sealring/sealringkeep.HashCopies" = some 6 by kernel_rfl).symm.trans hf) |>.symm
      obtain rfl : fn = Tryd.f6 := (Option.some.inj (Tryd.func6.symm.trans hfn)).symm
      exact ⟨by kernel_rfl, fun j t ht => by
        rw [Tryd.params6] at ht
        have hm : t ∈ [22, 22, 22] := by simpa using Array.mem_of_getElem? ht
        have hall : ([22, 22, 22].all fun u => !Tryd.prog.wantsStandIn u) = true := by kernel_rfl
        exact (show Tryd.prog.wantsStandIn t = false by simpa using List.all_eq_true.1 hall t hm)⟩)
    (by kernel_rfl)
#print axioms hashCopies_card
end Go.Proofs.YthaipnjnkkdfbaaDoor
