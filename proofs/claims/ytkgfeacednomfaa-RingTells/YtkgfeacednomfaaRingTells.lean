/- RingTells returns true for every m, a, b, n and t: a ring answers what the document says. No condition. -/
import Derived.Test.YtkgfeacednomfaaRTWalk
import Derived.Test.YtkgfeacednomfaaRows
import Derived.ProofKit
namespace Go.Proofs.Ytkgfeacednomfaa
theorem Try.own : ownKnob Try.prog.godebug = none := by kernel_rfl
theorem Try.cellsNum : Try.prog.cellsOf 24 = 4 := by kernel_rfl
theorem Try.cellsU64 : Try.prog.cellsOf 22 = 1 := by kernel_rfl
theorem Try.cellsU8 : Try.prog.cellsOf 5 = 1 := by kernel_rfl
theorem Try.cellsWide : Try.prog.cellsOf 34 = 8 := by kernel_rfl
end Go.Proofs.Ytkgfeacednomfaa
namespace Go.Proofs.Ytkgfeacednomfaa
open Go.RowKit
open Go.ChangeShapes Go.WideShapes Go.ChangeAt
attribute [local go_sem] World.cell?_alloc_some cell_alloc2 cell_alloc3 cell_alloc4 frozen?_alloc_cells frozen_out
set_option linter.unusedSimpArgs false
set_option maxHeartbeats 2000000 in
theorem ringTells_bad (m a b n l h : Nm) (om : m.ok) (hm : m.a % 2 = 0 ∨ m = ⟨1, 0, 0, 0⟩)
    (SN : ∀ w, Calls Try.prog 27 #[N m] w fun e w' => e = .returned (.tuple #[.pointer none, .int .i64 1]) ∧ Below w.heap.size w w')
    (w : World) :
    Calls Try.prog 4 #[N m, N a, N b, N n, Wv l h] w fun e w' => e = .returned (.bool true) ∧ Below w.heap.size w w' := by
  have m0 := om.a.1
  have m1 := om.a.2
  rcases hm with hm | hm
  · have q : m.a.tmod 2 = 0 := by rw [Int.tmod_eq_emod_of_nonneg m0]; exact hm
    go_enter Try.func4, Try.ntmps4
    have s0 : Hid (Kn (kal8 (kal4 (kal4 (kal4 (kal4 w (m)) (a)) (b)) (n)) (l) (h)) [(w.heap.size + 1 + 1 + 1 + 1, (c8 (l) (h))), (w.heap.size + 1 + 1 + 1, (c4 (n))), (w.heap.size + 1 + 1, (c4 (b))), (w.heap.size + 1, (c4 (a))), (w.heap.size, (c4 (m)))]) := ((((((Kn.nil w).al (c4 (m)) 24 rfl).al (c4 (a)) 24 (by simp)).al (c4 (b)) 24 (by simp)).al (c4 (n)) 24 (by simp)).al (c8 (l) (h)) 34 (by simp))
    have b0 : Hid (Below w.heap.size w (kal8 (kal4 (kal4 (kal4 (kal4 w (m)) (a)) (b)) (n)) (l) (h))) := ((((((Below.refl _ _).alloc (Nat.le_refl _) _).alloc (by simp <;> omega) _).alloc (by simp <;> omega) _).alloc (by simp <;> omega) _).alloc (by simp <;> omega) _)
    go_wp2_with fail
    refine (SN _).mono ?_
    rintro e w1 ⟨rfl, hb1⟩
    have s1 : Hid (Kn w1 [(w.heap.size + 1 + 1 + 1 + 1, (c8 (l) (h))), (w.heap.size + 1 + 1 + 1, (c4 (n))), (w.heap.size + 1 + 1, (c4 (b))), (w.heap.size + 1, (c4 (a))), (w.heap.size, (c4 (m)))]) := s0.out.up hb1
    have b1 : Hid (Below w.heap.size w w1) := b0.out.trans (hb1.mono b0.out.size)
    have z1 := b1.out.size
    clear hb1 s0 b0
    have um_0 : w1.cell? ⟨w.heap.size, 0, none⟩ = some (.int .u64 (m).a) := Kn.get s1.out 4 0 rfl rfl
    have um_1 : w1.cell? ⟨w.heap.size, 1, none⟩ = some (.int .u64 (m).b) := Kn.get s1.out 4 1 rfl rfl
    have um_2 : w1.cell? ⟨w.heap.size, 2, none⟩ = some (.int .u64 (m).c) := Kn.get s1.out 4 2 rfl rfl
    have um_3 : w1.cell? ⟨w.heap.size, 3, none⟩ = some (.int .u64 (m).d) := Kn.get s1.out 4 3 rfl rfl
    go_wp2_with fail
    clear um_0 um_1 um_2 um_3
    go_ret
    exact ⟨rfl, b1.out⟩
  · subst hm
    have e1 := eqN ⟨1, 0, 0, 0⟩ ⟨1, 0, 0, 0⟩
    rw [Nm.beq_self] at e1
    go_enter Try.func4, Try.ntmps4
    have s0 : Hid (Kn (kal8 (kal4 (kal4 (kal4 (kal4 w ((⟨1, 0, 0, 0⟩ : Nm))) (a)) (b)) (n)) (l) (h)) [(w.heap.size + 1 + 1 + 1 + 1, (c8 (l) (h))), (w.heap.size + 1 + 1 + 1, (c4 (n))), (w.heap.size + 1 + 1, (c4 (b))), (w.heap.size + 1, (c4 (a))), (w.heap.size, (c4 ((⟨1, 0, 0, 0⟩ : Nm))))]) := ((((((Kn.nil w).al (c4 ((⟨1, 0, 0, 0⟩ : Nm))) 24 rfl).al (c4 (a)) 24 (by simp)).al (c4 (b)) 24 (by simp)).al (c4 (n)) 24 (by simp)).al (c8 (l) (h)) 34 (by simp))
    have b0 : Hid (Below w.heap.size w (kal8 (kal4 (kal4 (kal4 (kal4 w ((⟨1, 0, 0, 0⟩ : Nm))) (a)) (b)) (n)) (l) (h))) := ((((((Below.refl _ _).alloc (Nat.le_refl _) _).alloc (by simp <;> omega) _).alloc (by simp <;> omega) _).alloc (by simp <;> omega) _).alloc (by simp <;> omega) _)
    go_wp2_with fail
    refine (SN _).mono ?_
    rintro e w1 ⟨rfl, hb1⟩
    have s1 : Hid (Kn w1 [(w.heap.size + 1 + 1 + 1 + 1, (c8 (l) (h))), (w.heap.size + 1 + 1 + 1, (c4 (n))), (w.heap.size + 1 + 1, (c4 (b))), (w.heap.size + 1, (c4 (a))), (w.heap.size, (c4 ((⟨1, 0, 0, 0⟩ : Nm))))]) := s0.out.up hb1
    have b1 : Hid (Below w.heap.size w w1) := b0.out.trans (hb1.mono b0.out.size)
    have z1 := b1.out.size
    clear hb1 s0 b0
    have um_0 : w1.cell? ⟨w.heap.size, 0, none⟩ = some (.int .u64 ((⟨1, 0, 0, 0⟩ : Nm)).a) := Kn.get s1.out 4 0 rfl rfl
    have um_1 : w1.cell? ⟨w.heap.size, 1, none⟩ = some (.int .u64 ((⟨1, 0, 0, 0⟩ : Nm)).b) := Kn.get s1.out 4 1 rfl rfl
    have um_2 : w1.cell? ⟨w.heap.size, 2, none⟩ = some (.int .u64 ((⟨1, 0, 0, 0⟩ : Nm)).c) := Kn.get s1.out 4 2 rfl rfl
    have um_3 : w1.cell? ⟨w.heap.size, 3, none⟩ = some (.int .u64 ((⟨1, 0, 0, 0⟩ : Nm)).d) := Kn.get s1.out 4 3 rfl rfl
    go_wp2_with fail
    clear um_0 um_1 um_2 um_3
    go_ret
    exact ⟨rfl, b1.out⟩
theorem plus_n (X Y : Nat) (hX : X < 65536 ^ 64) (hY : Y < 65536 ^ 64) (u v : Value) (w : World) (su : Sl w u (P.dg X)) (sv : Sl w v (P.dg Y)) :
    Calls Try.prog 10 #[u, v] w fun e w' => (∃ v', e = .returned v' ∧ Sl w' v' (P.dg (X + Y))) ∧ Below w.heap.size w w' := by
  have := dplus_fun u v _ _ (P.dg_Dg X) (P.dg_Dg Y) (Nat.lt_trans (dshort hX) (by decide)) (Nat.lt_trans (dshort hY) (by decide)) w su sv
  rwa [P.dv_dg, P.dv_dg] at this
theorem minus_n (X Y : Nat) (hX : X < 65536 ^ 64) (le : Y ≤ X) (u v : Value) (w : World) (su : Sl w u (P.dg X)) (sv : Sl w v (P.dg Y)) :
    Calls Try.prog 16 #[u, v] w fun e w' => (∃ v', e = .returned v' ∧ Sl w' v' (P.dg (X - Y))) ∧ Below w.heap.size w w' := by
  have := dminus_fun u v _ _ (P.dg_Dg X) (P.dg_Dg Y) (Nat.lt_trans (dshort hX) (by decide)) (by rw [P.dv_dg, P.dv_dg]; exact le) w su sv
  rwa [P.dv_dg, P.dv_dg] at this
theorem order_n (X Y : Nat) (hX : X < 65536 ^ 64) (hY : Y < 65536 ^ 64) (u v : Value) (w : World) (su : Sl w u (P.dg X)) (sv : Sl w v (P.dg Y)) :
    Calls Try.prog 11 #[u, v] w fun e w' => e = .returned (.int .i64 (cmpN X Y)) ∧ Below w.heap.size w w' := by
  have := order_fun u v _ _ (P.dg_Dg X) (P.dg_Dg Y) (Nat.lt_trans (dshort hX) (by decide)) (Nat.lt_trans (dshort hY) (by decide)) w su sv
  rwa [P.dv_dg, P.dv_dg] at this
theorem toNum_n (X : Nat) (hX : X < 2 ^ 256) (u : Value) (w : World) (su : Sl w u (P.dg X)) :
    Calls Try.prog 15 #[u] w fun e w' => e = .returned (N (nm X)) ∧ Below w.heap.size w w' := by
  have := toNum_fun u _ (P.dg_Dg X) (dshort (Nat.lt_trans hX (by decide))) w su
  rwa [P.dv_dg, Nat.mod_eq_of_lt hX] at this
theorem low_is (X M : Nat) (hX : X < 65536 ^ 64) (hM : 0 < M) (hM2 : M < 2 ^ 256) : LowIs X M (nm (X % M)) :=
  fun u k g w su hc sk => ownLow_fun X M hX hM hM2 u k g w su hc sk
theorem s256 {x : Nat} (h : x < 2 ^ 256) : x < 65536 ^ 64 := Nat.lt_trans h (by decide)
theorem s512 {x : Nat} (h : x < 2 ^ 512) : x < 65536 ^ 64 := by
  rw [pow512'] at h
  exact Nat.lt_of_lt_of_le h (by decide)
theorem ringTells_law (m a b n l h : Nm) (om : m.ok) (oa : a.ok) (ob : b.ok) (on : n.ok) (ol : l.ok) (oh : h.ok) (w : World) :
    Calls Try.prog 4 #[N m, N a, N b, N n, Wv l h] w fun e w' => e = .returned (.bool true) ∧ Below w.heap.size w w' := by
  rcases odd_cases m om with hb | ⟨odd, big⟩
  · refine ringTells_bad m a b n l h om ?_ (new_bad m om hb) w
    rcases hb with h | h
    · exact .inl (by have := Nm.nat_cast om; unfold Nm.val at this; omega)
    · exact .inr h
  have R := new_ok m om odd big
  have hm : 0 < m.nat := by omega
  have hM := Nm.nat_lt om
  have hA := Nm.nat_lt oa
  have hB := Nm.nat_lt ob
  have lE : b.nat % m.nat < m.nat := Nat.mod_lt _ hm
  have lG : a.nat + (m.nat - b.nat % m.nat) < 2 ^ 256 * 2 ^ 256 := Nat.lt_of_lt_of_le (show a.nat + (m.nat - b.nat % m.nat) < 2 ^ 256 + 2 ^ 256 by omega) (by decide)
  have lC : a.nat + b.nat < 2 ^ 256 * 2 ^ 256 := Nat.lt_of_lt_of_le (show a.nat + b.nat < 2 ^ 256 + 2 ^ 256 by omega) (by decide)
  have big64 : ∀ {x : Nat}, x < 2 ^ 256 * 2 ^ 256 → x < 65536 ^ 64 := fun h => Nat.lt_of_lt_of_le h (by decide)
  have io : (nm (P.out m.nat (V l h))).nat = P.out m.nat (V l h) := nm_nat (mod_ok om hm _)
  have lO : P.out m.nat (V l h) < 2 ^ 256 := Nat.lt_trans (P.out_lt hm _) hM
  have OO := fun w => ofNum_fun (nm (P.out m.nat (V l h))) (nm_ok _) w
  rw [io] at OO
  have L6 := low_is (V l h) m.nat (s512 (V_lt ol oh)) hm hM
  rw [← P.out_back odd] at L6
  refine ringTells_good m (xk m 7) _ _ a b n l h _ _ _ _ _ _ _ a.nat b.nat m.nat n.nat (2 ^ 256) _ _ _ _ _ _ _ _ _ _ ?_ om.a.1 ?_ (cmpN (P.out m.nat (V l h)) m.nat) ?_ (new_good m om odd big) (fun k w hR => ringMod_fun k m _ _ _ w hR) (fun k w hR => ringAdd_fun R a b oa ob w hR) (fun k w hR => ringSub_fun R a b oa ob w hR) (fun k w hR => ringMul_fun R a b oa ob w hR) (fun k w hR => ringOut_fun R l h ol oh w hR) (fun k w hR => ringPow_fun R a n oa on w hR) (fun k w hR => in_fun R a oa w hR)
    (fun w => ofNum_fun m om w) (fun w => ofNum_fun a oa w) (fun w => ofNum_fun b ob w) (fun w => ofNum_fun n on w) OO (fun w => ofWide_fun l h ol oh w) (fun w => twoTo_fun w)
    (plus_n _ _ (s256 hA) (s256 hB)) (rest_n _ _ (s256 hB) hm (s256 hM)) (minus_n _ _ (s256 hM) (Nat.le_of_lt lE)) (plus_n _ _ (s256 hA) (s256 (Nat.lt_of_le_of_lt (Nat.sub_le _ _) hM))) (times_n _ _ (s256 hA) (s256 hB))
    (fun u v t w h1 h2 h3 => power_fun _ _ _ (s256 hA) (Nm.nat_lt on) hm hM u v t w h1 h2 h3) (toNum_n _ (mod_ok om hm _)) (times_n _ _ (s256 hA) (by decide)) (times_n _ _ (s256 lO) (by decide)) (order_n _ _ (s256 lO) (s256 hM))
    (low_is _ _ (big64 lC) hm hM) (low_is _ _ (big64 lG) hm hM) (low_is _ _ (prod_short hA hB) hm hM) (low_is _ _ (big64 (Nat.mul_lt_mul_of_pos_right hA (by decide))) hm hM) (low_is _ _ (big64 (Nat.mul_lt_mul_of_pos_right lO (by decide))) hm hM) L6 w
  · have := Nm.nat_cast om
    unfold Nm.val at this
    omega
  · intro e
    rw [e] at big
    exact absurd big (by decide)
  · unfold cmpN
    rw [if_pos (P.out_lt hm _)]
    decide
set_option maxRecDepth 100000 in
theorem ringTells_lifted (os : Os) (started : os.Started) (H : Type) (enc : TypeId × Value → H) :
    ReturnsInHanded {} Try.checked os 4 .any (Rows.ringTellsSpec.pre6 enc Try.prog Try.f4 Rows.ringTellsRow.domain false) (Rows.ringTellsSpec.post enc Try.prog Try.f4 false true false false) := by
  refine returnsInHanded_of_change (C := Try.checked) Try.own started (by kernel_rfl) Try.func4
    (ChangeSpec.witness6 (enc := enc) (C := Try.checked) false ⟨#[], #[.agg #[.int .u64 0, .int .u64 0, .int .u64 0, .int .u64 0], .agg #[.int .u64 0, .int .u64 0, .int .u64 0, .int .u64 0], .agg #[.int .u64 0, .int .u64 0, .int .u64 0, .int .u64 0], .agg #[.int .u64 0, .int .u64 0, .int .u64 0, .int .u64 0], .agg #[.int .u64 0, .int .u64 0, .int .u64 0, .int .u64 0, .int .u64 0, .int .u64 0, .int .u64 0, .int .u64 0]], []⟩ 8 (by kernel_rfl) (by kernel_rfl) (by kernel_rfl) (by kernel_rfl)) ?_
  intro W base args ds gs before hval0 hW hcnd _
  have hval : ∀ (j : Nat) t v, Try.f4.params[j]? = some t → args[j]? = some v → Value.okWide Try.prog W .any base t v := hval0
  have hW' := hW
  obtain ⟨p, q, hA0, hV, rfl, hfz, hnd⟩ := hW
  have hA : DataW.TrodAll enc Try.prog W 0 (fun _ => true) true Try.f4.params.toList args.toList ds p := hA0
  rw [Try.params4] at hA hval
  obtain ⟨v0, vs0, d0, ds0, p0, q0, hargs, rfl, rfl, h0, r0⟩ := trodAll_cons hA
  obtain ⟨v1, vs1, d1, ds1, p1, q1, rfl, rfl, rfl, h1, r1⟩ := trodAll_cons r0
  obtain ⟨v2, vs2, d2, ds2, p2, q2, rfl, rfl, rfl, h2, r2⟩ := trodAll_cons r1
  obtain ⟨v3, vs3, d3, ds3, p3, q3, rfl, rfl, rfl, h3, r3⟩ := trodAll_cons r2
  obtain ⟨v4, vs4, d4, ds4, p4, q4, rfl, rfl, rfl, h4, r4⟩ := trodAll_cons r3
  obtain ⟨rfl, rfl, rfl⟩ := trodAll_nil r4
  obtain ⟨rfl, rfl⟩ := trodVars_none hV
  have eargs : args = #[v0, v1, v2, v3, v4] := by
    obtain ⟨l⟩ := args
    simp at hargs
    simp [hargs]
  subst eargs
  obtain ⟨xs0, l0, rfl, rfl, rfl, w0⟩ := open_arr Try.underlying24 Try.underlying22 Try.cellsU64 Try.cellsNum (hval 0 24 v0 rfl rfl) h0
  obtain ⟨xs1, l1, rfl, rfl, rfl, w1⟩ := open_arr Try.underlying24 Try.underlying22 Try.cellsU64 Try.cellsNum (hval 1 24 v1 rfl rfl) h1
  obtain ⟨xs2, l2, rfl, rfl, rfl, w2⟩ := open_arr Try.underlying24 Try.underlying22 Try.cellsU64 Try.cellsNum (hval 2 24 v2 rfl rfl) h2
  obtain ⟨xs3, l3, rfl, rfl, rfl, w3⟩ := open_arr Try.underlying24 Try.underlying22 Try.cellsU64 Try.cellsNum (hval 3 24 v3 rfl rfl) h3
  obtain ⟨xs4, l4, rfl, rfl, rfl, w4⟩ := open_arr Try.underlying34 Try.underlying22 Try.cellsU64 Try.cellsWide (hval 4 34 v4 rfl rfl) h4
  clear hA0 hval0 hval hA h0 h1 h2 h3 h4 hargs r0 r1 r2 r3
  obtain ⟨a0, b0, c0, d0, rfl⟩ := list4 xs0 l0
  have ok0 : (⟨a0, b0, c0, d0⟩ : Nm).ok := ⟨word_of_wf (w0 _ (by simp)), word_of_wf (w0 _ (by simp)), word_of_wf (w0 _ (by simp)), word_of_wf (w0 _ (by simp))⟩
  obtain ⟨a1, b1, c1, d1, rfl⟩ := list4 xs1 l1
  have ok1 : (⟨a1, b1, c1, d1⟩ : Nm).ok := ⟨word_of_wf (w1 _ (by simp)), word_of_wf (w1 _ (by simp)), word_of_wf (w1 _ (by simp)), word_of_wf (w1 _ (by simp))⟩
  obtain ⟨a2, b2, c2, d2, rfl⟩ := list4 xs2 l2
  have ok2 : (⟨a2, b2, c2, d2⟩ : Nm).ok := ⟨word_of_wf (w2 _ (by simp)), word_of_wf (w2 _ (by simp)), word_of_wf (w2 _ (by simp)), word_of_wf (w2 _ (by simp))⟩
  obtain ⟨a3, b3, c3, d3, rfl⟩ := list4 xs3 l3
  have ok3 : (⟨a3, b3, c3, d3⟩ : Nm).ok := ⟨word_of_wf (w3 _ (by simp)), word_of_wf (w3 _ (by simp)), word_of_wf (w3 _ (by simp)), word_of_wf (w3 _ (by simp))⟩
  obtain ⟨a4, b4, c4, d4, e4, f4, g4, i4, rfl⟩ := list8 xs4 l4
  have ok4 : (⟨a4, b4, c4, d4⟩ : Nm).ok := ⟨word_of_wf (w4 _ (by simp)), word_of_wf (w4 _ (by simp)), word_of_wf (w4 _ (by simp)), word_of_wf (w4 _ (by simp))⟩
  have okk4 : (⟨e4, f4, g4, i4⟩ : Nm).ok := ⟨word_of_wf (w4 _ (by simp)), word_of_wf (w4 _ (by simp)), word_of_wf (w4 _ (by simp)), word_of_wf (w4 _ (by simp))⟩
  simp only [List.append_nil] at hW'
  refine (ringTells_law ⟨a0, b0, c0, d0⟩ ⟨a1, b1, c1, d1⟩ ⟨a2, b2, c2, d2⟩ ⟨a3, b3, c3, d3⟩ ⟨a4, b4, c4, d4⟩ ⟨e4, f4, g4, i4⟩ ok0 ok1 ok2 ok3 ok4 okk4 W).mono fun e W' ⟨he, hg⟩ => ?_
  subst he
  exact ⟨_, rfl, _, _, _, [], [], [], hW', trodAll_mk1 (shut_bool Try.underlying4 _), trodAll_cons_mk (shut_arr Try.underlying24 Try.underlying22 Try.cellsU64 Try.cellsNum l0 w0) (trodAll_cons_mk (shut_arr Try.underlying24 Try.underlying22 Try.cellsU64 Try.cellsNum l1 w1) (trodAll_cons_mk (shut_arr Try.underlying24 Try.underlying22 Try.cellsU64 Try.cellsNum l2 w2) (trodAll_cons_mk (shut_arr Try.underlying24 Try.underlying22 Try.cellsU64 Try.cellsNum l3 w3) (trodAll_cons_mk (shut_arr Try.underlying34 Try.underlying22 Try.cellsU64 Try.cellsWide l4 w4) (trodAll_mk0))))), rfl, hg.frame _, fun h => by cases h⟩

theorem ringTells_holds : Rows.RingTellsSaid :=
  OpenClaim.holds_of_wide 4 Try.f4 rfl rfl rfl rfl rfl rfl rfl ⟨rfl, rfl, rfl, rfl, rfl⟩ rfl rfl rfl rfl rfl (by kernel_rfl) Try.func4 (by kernel_rfl)
    (of_decide_eq_true (by kernel_rfl)) (by unfold Func.isWrapper; first | (rw [if_pos (by decide +kernel)]; kernel_rfl) | (rw [if_neg (by decide +kernel)]; exact ⟨rfl, rfl⟩))
    (fun os started H enc _ => ringTells_lifted os started H enc)
#print axioms ringTells_holds
end Go.Proofs.Ytkgfeacednomfaa
