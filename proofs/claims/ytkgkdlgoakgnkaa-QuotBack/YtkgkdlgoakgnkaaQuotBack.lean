/- QuotBack returns true for every a and m. No condition. -/
import Derived.Test.YtkgkdlgoakgnkaaDivMod
import Derived.Test.YtkgkdlgoakgnkaaMulW
import Derived.Test.YtkgkdlgoakgnkaaKeepV
import Derived.Test.YtkgkdlgoakgnkaaAl
import Derived.Test.YtkgkdlgoakgnkaaArr
import Derived.Test.YtkgkdlgoakgnkaaOwn
namespace Go.Proofs.Ytkgkdlgoakgnkaa
open Go.RowKit
open Go.ChangeShapes Go.WideShapes Go.ChangeAt
attribute [local go_sem] World.cell?_alloc_some cell_alloc2 cell_alloc3 cell_alloc4 frozen?_alloc_cells frozen_out

set_option maxHeartbeats 1000000 in
theorem quotBack_zero (l h : Nm) (w : World) :
    Calls Try.prog 6 #[Wv l h, N ⟨0, 0, 0, 0⟩] w fun e w' => e = .returned (.bool true) ∧ Below w.heap.size w w' := by
  have e1 := eqN ⟨0, 0, 0, 0⟩ ⟨0, 0, 0, 0⟩
  rw [Nm.beq_self] at e1
  go_enter Try.func6, Try.ntmps6
  go_wp2_with fail
  refine (divmod_zero l h _).mono ?_
  rintro e w1 ⟨rfl, hb1⟩
  have z1 := hb1.size
  try simp at z1
  obtain ⟨qw1_0_1, qw1_1_1, qw1_2_1, qw1_3_1⟩ := Lies.up (x := ⟨0, 0, 0, 0⟩) (k := w.heap.size + 1) (by constructor <;> first | assumption | simp [go_sem]) hb1
  have b1 : Hid (Below w.heap.size w w1) := by
    refine Below.trans ?_ (hb1.mono (by first | omega | (simp <;> omega)))
    repeat (first | exact Below.refl _ _ | refine Below.drew ?_ | refine Below.setCell ?_ (by first | omega | (simp <;> omega)) _ | refine Below.alloc ?_ (by first | omega | (simp <;> omega)) _)
  clear hb1
  go_wp2_with fail
  go_ret
  refine ⟨rfl, ?_⟩
  repeat (first | exact b1.out | refine Below.drew ?_ | refine Below.setCell ?_ (by first | omega | (simp <;> omega)) _ | refine Below.alloc ?_ (by first | omega | (simp <;> omega)) _)
set_option maxHeartbeats 1000000 in
theorem quotBack_walk (l h m ql qh r ul pl ph sl sh : Nm) (c : Int) (hc : c < 0) (nz : m ≠ ⟨0, 0, 0, 0⟩)
    (SD : ∀ w, Calls Try.prog 34 #[Wv l h, N m] w fun e w' => e = .returned (.tuple #[Wv ql qh, N r, .int .i64 0]) ∧ Below w.heap.size w w')
    (SH : ∀ w, Calls Try.prog 16 #[N qh, N m] w fun e w' => e = .returned (Wv ul ⟨0, 0, 0, 0⟩) ∧ Below w.heap.size w w')
    (SL : ∀ w, Calls Try.prog 16 #[N ql, N m] w fun e w' => e = .returned (Wv pl ph) ∧ Below w.heap.size w w')
    (SC : ∀ w, Calls Try.prog 19 #[N r, N m] w fun e w' => e = .returned (.int .i64 c) ∧ Below w.heap.size w w')
    (P1 : ∀ w, Calls Try.prog 35 #[Wv pl ph, Wv ⟨0, 0, 0, 0⟩ ul] w fun e w' => e = .returned (Wv sl sh) ∧ Below w.heap.size w w')
    (P2 : ∀ w, Calls Try.prog 35 #[Wv sl sh, Wv r ⟨0, 0, 0, 0⟩] w fun e w' => e = .returned (Wv l h) ∧ Below w.heap.size w w')
    (w : World) :
    Calls Try.prog 6 #[Wv l h, N m] w fun e w' => e = .returned (.bool true) ∧ Below w.heap.size w w' := by
  have e1 := eqN m ⟨0, 0, 0, 0⟩
  rw [Nm.beq_ne nz] at e1
  have e2 := eqN ⟨0, 0, 0, 0⟩ ⟨0, 0, 0, 0⟩
  rw [Nm.beq_self] at e2
  have e3 := eqW l h l h
  rw [Nm.beq_self, Nm.beq_self] at e3
  go_enter Try.func6, Try.ntmps6
  go_wp2_with fail
  refine (SD _).mono ?_
  rintro e w1 ⟨rfl, hb1⟩
  have z1 := hb1.size
  simp at z1
  have La : Hid (Lies8 w1 w.heap.size l h) := Lies8.up (by constructor <;> simp [go_sem]) hb1
  have Lm : Hid (Lies w1 (w.heap.size + 1) m) := Lies.up (by constructor <;> simp [go_sem]) hb1
  have b1 : Hid (Below w.heap.size w w1) := by
    refine Below.trans ?_ (hb1.mono (by first | omega | (simp <;> omega)))
    repeat (first | exact Below.refl _ _ | refine Below.alloc ?_ (by first | omega | (simp <;> omega)) _)
  clear hb1
  obtain ⟨a0, a1, a2, a3, a4, a5, a6, a7⟩ := La.out
  obtain ⟨m0, m1, m2, m3⟩ := Lm.out
  go_wp2_with fail
  have La' : Hid _ := (((La.out.alloc (.cells #[.int .u64 ql.a, .int .u64 ql.b, .int .u64 ql.c, .int .u64 ql.d, .int .u64 qh.a, .int .u64 qh.b, .int .u64 qh.c, .int .u64 qh.d] 34)).alloc (.cells #[.int .u64 r.a, .int .u64 r.b, .int .u64 r.c, .int .u64 r.d] 24)).alloc (.cells #[.int .u64 0, .int .u64 0, .int .u64 0, .int .u64 0] 24))
  have Lm' : Hid _ := (((Lm.out.alloc (.cells #[.int .u64 ql.a, .int .u64 ql.b, .int .u64 ql.c, .int .u64 ql.d, .int .u64 qh.a, .int .u64 qh.b, .int .u64 qh.c, .int .u64 qh.d] 34)).alloc (.cells #[.int .u64 r.a, .int .u64 r.b, .int .u64 r.c, .int .u64 r.d] 24)).alloc (.cells #[.int .u64 0, .int .u64 0, .int .u64 0, .int .u64 0] 24))
  clear a0 a1 a2 a3 a4 a5 a6 a7 m0 m1 m2 m3
  refine wp_region_alloc1 4 (.cells #[.int .u64 0, .int .u64 0, .int .u64 0, .int .u64 0, .int .u64 0, .int .u64 0, .int .u64 0, .int .u64 0] 34) (by kernel_rfl) (by kernel_rfl) (by kernel_rfl) (by kernel_rfl) (by decide) (fun _ _ d _ _ h => by cases d <;> exact h) rfl rfl (fun _ _ => by kernel_rfl) ?_
  apply Exists.intro
  refine ⟨fun U hU f hf hcl => ?_, fun k2 w2 hb2 hk2 hc2 => ?_⟩
  · have q := fun n => Lies8.up (l := ql) (h := qh) (k := w1.heap.size) (by constructor <;> simp [go_sem]) (hf n).out
    have q_a := fun n => (q n).a
    have q_b := fun n => (q n).b
    have q_c := fun n => (q n).c
    have q_d := fun n => (q n).d
    have q_e := fun n => (q n).e
    have q_f := fun n => (q n).f
    have q_g := fun n => (q n).g
    have q_i := fun n => (q n).i
    clear q
    have p := fun n => Lies.up (x := m) (k := w.heap.size + 1) Lm'.out (hf n).out
    have p_a := fun n => (p n).a
    have p_b := fun n => (p n).b
    have p_c := fun n => (p n).c
    have p_d := fun n => (p n).d
    clear p
    clear hf
    simp only [List.take_succ_cons, List.take_zero]
    repeat (go_big_quiet_step (first | (go_at_call 30; exact (high_fun ql qh _).mono fun e w'' ⟨he, hb⟩ => ⟨he, hcl.out _ _ hb⟩) | (go_at_call 16; exact (SH _).mono fun e w'' ⟨he, hb⟩ => ⟨he, hcl.out _ _ hb⟩)))
    exact wpQuiet_nil rfl
  · simp only [List.drop_succ_cons, List.drop_zero]
    obtain ⟨c0, c1, c2, c3, c4, c5, c6, c7, cz⟩ := cells8 hc2.out
    have z2 := hb2.out.size
    simp at z2 hk2
    have La2 : Hid (Lies8 (st8 w2 k2 ul ⟨0, 0, 0, 0⟩) w.heap.size l h) := (La'.out.up hb2.out).st8_ne (by omega)
    have Lm2 : Hid (Lies (st8 w2 k2 ul ⟨0, 0, 0, 0⟩) (w.heap.size + 1) m) := (Lm'.out.up hb2.out).st8_ne (by omega)
    have Lq2 : Hid (Lies8 (st8 w2 k2 ul ⟨0, 0, 0, 0⟩) w1.heap.size ql qh) := (Lies8.up (by constructor <;> simp [go_sem]) hb2.out).st8_ne (by omega)
    have Lr2 : Hid (Lies (st8 w2 k2 ul ⟨0, 0, 0, 0⟩) (w1.heap.size + 1) r) := (Lies.up (by constructor <;> simp [go_sem]) hb2.out).st8_ne (by omega)
    have Ln2 : Hid (Lies (st8 w2 k2 ul ⟨0, 0, 0, 0⟩) (w1.heap.size + 1 + 1) ⟨0, 0, 0, 0⟩) := (Lies.up (by constructor <;> simp [go_sem]) hb2.out).st8_ne (by omega)
    have Lu2 : Hid (Lies8 (st8 w2 k2 ul ⟨0, 0, 0, 0⟩) k2 ul ⟨0, 0, 0, 0⟩) := Lies8.st8_self hc2.out _ _
    have b2 : Hid (Below w.heap.size w (st8 w2 k2 ul ⟨0, 0, 0, 0⟩)) := by
      have s1 := b1.out.size
      exact below_st8 (((b1.out.alloc s1 _).alloc (by simp; omega) _ |>.alloc (by simp; omega) _).trans (hb2.out.mono (by simp; omega))) (by omega)
    go_wp2_with fail
    clear c0 c1 c2 c3 c4 c5 c6 c7 cz hc2 hb2 La Lm La' Lm' b1
    refine wp_region_up (by kernel_rfl) (by kernel_rfl) (fun U hU f hf hcl => ?_)
    have A := fun n => Lies8.up (l := l) (h := h) (k := w.heap.size) La2.out (hf n).out
    have A_a := fun n => (A n).a
    have A_b := fun n => (A n).b
    have A_c := fun n => (A n).c
    have A_d := fun n => (A n).d
    have A_e := fun n => (A n).e
    have A_f := fun n => (A n).f
    have A_g := fun n => (A n).g
    have A_i := fun n => (A n).i
    clear A
    have p := fun n => Lies.up (x := m) (k := w.heap.size + 1) Lm2.out (hf n).out
    have p_a := fun n => (p n).a
    have p_b := fun n => (p n).b
    have p_c := fun n => (p n).c
    have p_d := fun n => (p n).d
    clear p
    have q := fun n => Lies8.up (l := ql) (h := qh) (k := w1.heap.size) Lq2.out (hf n).out
    have q_a := fun n => (q n).a
    have q_b := fun n => (q n).b
    have q_c := fun n => (q n).c
    have q_d := fun n => (q n).d
    have q_e := fun n => (q n).e
    have q_f := fun n => (q n).f
    have q_g := fun n => (q n).g
    have q_i := fun n => (q n).i
    clear q
    have RR := fun n => Lies.up (x := r) (k := w1.heap.size + 1) Lr2.out (hf n).out
    have RR_a := fun n => (RR n).a
    have RR_b := fun n => (RR n).b
    have RR_c := fun n => (RR n).c
    have RR_d := fun n => (RR n).d
    clear RR
    have ZZ := fun n => Lies.up (x := ⟨0, 0, 0, 0⟩) (k := w1.heap.size + 1 + 1) Ln2.out (hf n).out
    have ZZ_a := fun n => (ZZ n).a
    have ZZ_b := fun n => (ZZ n).b
    have ZZ_c := fun n => (ZZ n).c
    have ZZ_d := fun n => (ZZ n).d
    clear ZZ
    have UU := fun n => Lies8.up (l := ul) (h := ⟨0, 0, 0, 0⟩) (k := k2) Lu2.out (hf n).out
    have UU_a := fun n => (UU n).a
    have UU_b := fun n => (UU n).b
    have UU_c := fun n => (UU n).c
    have UU_d := fun n => (UU n).d
    have UU_e := fun n => (UU n).e
    have UU_f := fun n => (UU n).f
    have UU_g := fun n => (UU n).g
    have UU_i := fun n => (UU n).i
    clear UU
    repeat (go_big_quiet_step (first | (go_at_call 19; exact (SC _).mono fun e w'' ⟨he, hb⟩ => ⟨he, hcl.out _ _ hb⟩) | (go_at_call 30; exact (high_fun ul ⟨0, 0, 0, 0⟩ _).mono fun e w'' ⟨he, hb⟩ => ⟨he, hcl.out _ _ hb⟩) | (go_at_call_of 29 ql.a; exact (low_fun ql qh _).mono fun e w'' ⟨he, hb⟩ => ⟨he, hcl.out _ _ hb⟩) | (go_at_call_of 29 ul.a; exact (low_fun ul ⟨0, 0, 0, 0⟩ _).mono fun e w'' ⟨he, hb⟩ => ⟨he, hcl.out _ _ hb⟩) | (go_at_call 16; exact (SL _).mono fun e w'' ⟨he, hb⟩ => ⟨he, hcl.out _ _ hb⟩) | (go_at_call 26; exact (wideOf_fun ⟨0, 0, 0, 0⟩ ul _).mono fun e w'' ⟨he, hb⟩ => ⟨he, hcl.out _ _ hb⟩) | (go_at_call 36; exact (wide_fun r _).mono fun e w'' ⟨he, hb⟩ => ⟨he, hcl.out _ _ hb⟩) | (go_at_call_of 35 (Wv pl ph); exact (P1 _).mono fun e w'' ⟨he, hb⟩ => ⟨he, hcl.out _ _ hb⟩) | (go_at_call_of 35 (Wv sl sh); exact (P2 _).mono fun e w'' ⟨he, hb⟩ => ⟨he, hcl.out _ _ hb⟩)))
    refine wpQuiet_nil ?_
    intro n
    have hb3 := (hf n).out
    generalize f n = w3 at hb3 ⊢
    have b3 : Hid (Below w.heap.size w w3) := b2.out.trans (hb3.mono b2.out.size)
    clear hb3 hf hcl b2 La2 Lm2 Lq2 Lr2 Ln2 Lu2
    go_wp2_with fail
    go_ret
    exact ⟨rfl, b3.out⟩

theorem quotBack_law (l h m : Nm) (ol : l.ok) (oh : h.ok) (om : m.ok) (w : World) :
    Calls Try.prog 6 #[Wv l h, N m] w fun e w' => e = .returned (.bool true) ∧ Below w.heap.size w w' := by
  by_cases nz : m = ⟨0, 0, 0, 0⟩
  · subst nz
    exact quotBack_zero l h w
  have A1 := V_lt ol oh
  have D := divmod_fun l h m ol oh om nz
  have m1 := Nm.nat_lt om
  have mpos : 0 < m.nat := Nat.pos_of_ne_zero fun e => nz (Nm.ext_nat om zero_ok (by rw [e]; rfl))
  have rlt : V l h % m.nat < m.nat := Nat.mod_lt _ mpos
  have qm : V l h / m.nat * m.nat + V l h % m.nat = V l h := by rw [Nat.mul_comm]; exact Nat.div_add_mod _ _
  have q1 : V l h / m.nat < 2 ^ 512 := Nat.lt_of_le_of_lt (Nat.div_le_self _ _) A1
  rw [show m.val.toNat = m.nat from rfl] at D
  generalize V l h / m.nat = q at *
  have eq : (WL q).nat + 2 ^ 256 * (WH q).nat = q := by rw [← V_nat (WL_ok q) (WH_ok q), V_of q1]
  have split : q * m.nat = (WL q).nat * m.nat + 2 ^ 256 * ((WH q).nat * m.nat) := by rw [← Nat.mul_assoc, ← Nat.add_mul, eq]
  have bl : (WH q).nat * m.nat < 2 ^ 256 := by rw [pow512'] at A1; omega
  have SH := mul_V (WH q) m (WH_ok q) om
  have SL := mul_V (WL q) m (WL_ok q) om
  have a1 := mul_lt512 (WL_ok q) om
  rw [WH_small bl] at SH
  generalize (WL q).nat * m.nat = a at *
  generalize (WH q).nat * m.nat = b at *
  have r1 : V l h % m.nat < 2 ^ 256 := by omega
  have ob : V ⟨0, 0, 0, 0⟩ (WL b) = 2 ^ 256 * b := by
    rw [V_nat zero_ok (WL_ok b), WL_small bl, Nm.of_nat bl]
    simp [Nm.nat, Nm.val]
  have P1 := plus_V (WL a) (WH a) ⟨0, 0, 0, 0⟩ (WL b) (WL_ok a) (WH_ok a) zero_ok (WL_ok b) (by rw [V_of a1, ob]; omega)
  rw [V_of a1, ob, ← split] at P1
  have qm1 : q * m.nat < 2 ^ 512 := by omega
  have rv : V (Nm.of ((V l h % m.nat : Nat) : Int)) ⟨0, 0, 0, 0⟩ = V l h % m.nat := by rw [V_wide, Nm.of_nat r1]
  have P2 := plus_V (WL (q * m.nat)) (WH (q * m.nat)) (Nm.of ((V l h % m.nat : Nat) : Int)) ⟨0, 0, 0, 0⟩ (WL_ok _) (WH_ok _) (Nm.of_ok _) zero_ok (by rw [V_of qm1, rv]; omega)
  rw [V_of qm1, rv, qm, ← (V_halves ol oh).1, ← (V_halves ol oh).2] at P2
  have C := cmp_fun (Nm.of ((V l h % m.nat : Nat) : Int)) m (Nm.of_ok _) om
  refine quotBack_walk l h m _ _ _ _ _ _ _ _ _ ?_ nz D SH SL C P1 P2 w
  unfold cmpV
  rw [if_pos ?_]
  · decide
  · rw [← Nm.nat_cast (Nm.of_ok _), ← Nm.nat_cast om, Nm.of_nat r1]
    exact Int.ofNat_lt.2 rlt

set_option maxRecDepth 100000 in
theorem quotBack_lifted (os : Os) (started : os.Started) (H : Type) (enc : TypeId × Value → H) :
    ReturnsInHanded {} Try.checked os 6 .any (Rows.quotBackSpec.pre6 enc Try.prog Try.f6 Rows.quotBackRow.domain false) (Rows.quotBackSpec.post enc Try.prog Try.f6 false true false false) := by
  refine returnsInHanded_of_change (C := Try.checked) Try.own started (by kernel_rfl) Try.func6
    (ChangeSpec.witness6 (enc := enc) (C := Try.checked) false ⟨#[], #[.agg #[.int .u64 0, .int .u64 0, .int .u64 0, .int .u64 0, .int .u64 0, .int .u64 0, .int .u64 0, .int .u64 0], .agg #[.int .u64 0, .int .u64 0, .int .u64 0, .int .u64 0]], []⟩ 8 (by kernel_rfl) (by kernel_rfl) (by kernel_rfl) (by kernel_rfl)) ?_
  intro W base args ds gs before hval0 hW hcnd _
  have hval : ∀ (j : Nat) t v, Try.f6.params[j]? = some t → args[j]? = some v → Value.okWide Try.prog W .any base t v := hval0
  have hW' := hW
  obtain ⟨p, q, hA0, hV, rfl, hfz, hnd⟩ := hW
  have hA : DataW.TrodAll enc Try.prog W 0 (fun _ => true) true Try.f6.params.toList args.toList ds p := hA0
  rw [Try.params6] at hA hval
  obtain ⟨v0, v1, d0, d1, p0, p1, rfl, rfl, rfl, h0, h1⟩ := trodAll_two hA
  obtain ⟨rfl, rfl⟩ := trodVars_none hV
  obtain ⟨xs0, l0, rfl, rfl, rfl, w0⟩ := open_arr Try.underlying34 Try.underlying22 Try.cellsU64 Try.cellsWide (hval 0 34 v0 rfl rfl) h0
  obtain ⟨xs1, l1, rfl, rfl, rfl, w1⟩ := open_arr Try.underlying24 Try.underlying22 Try.cellsU64 Try.cellsNum (hval 1 24 v1 rfl rfl) h1
  clear hA0 hval0 hval hA h0 h1
  obtain ⟨a0, b0, c0, d0, e0, f0, g0, i0, rfl⟩ := list8 xs0 l0
  have ok0 : (⟨a0, b0, c0, d0⟩ : Nm).ok := ⟨word_of_wf (w0 _ (by simp)), word_of_wf (w0 _ (by simp)), word_of_wf (w0 _ (by simp)), word_of_wf (w0 _ (by simp))⟩
  have okk0 : (⟨e0, f0, g0, i0⟩ : Nm).ok := ⟨word_of_wf (w0 _ (by simp)), word_of_wf (w0 _ (by simp)), word_of_wf (w0 _ (by simp)), word_of_wf (w0 _ (by simp))⟩
  obtain ⟨a1, b1, c1, d1, rfl⟩ := list4 xs1 l1
  have ok1 : (⟨a1, b1, c1, d1⟩ : Nm).ok := ⟨word_of_wf (w1 _ (by simp)), word_of_wf (w1 _ (by simp)), word_of_wf (w1 _ (by simp)), word_of_wf (w1 _ (by simp))⟩
  simp only [List.append_nil] at hW'
  refine (quotBack_law ⟨a0, b0, c0, d0⟩ ⟨e0, f0, g0, i0⟩ ⟨a1, b1, c1, d1⟩ ok0 okk0 ok1 W).mono fun e W' ⟨he, hg⟩ => ?_
  subst he
  exact ⟨_, rfl, _, _, _, [], [], [], hW', trodAll_mk1 (shut_bool Try.underlying4 _), trodAll_mk2 (shut_arr Try.underlying34 Try.underlying22 Try.cellsU64 Try.cellsWide l0 w0) (shut_arr Try.underlying24 Try.underlying22 Try.cellsU64 Try.cellsNum l1 w1), rfl, hg.frame _, fun h => by cases h⟩

theorem quotBack_holds : Rows.QuotBackSaid :=
  OpenClaim.holds_of_wide 6 Try.f6 rfl rfl rfl rfl rfl rfl rfl ⟨rfl, rfl, rfl, rfl, rfl⟩ rfl rfl rfl rfl rfl (by kernel_rfl) Try.func6 (by kernel_rfl)
    (of_decide_eq_true (by kernel_rfl)) (by unfold Func.isWrapper; first | (rw [if_pos (by decide +kernel)]; kernel_rfl) | (rw [if_neg (by decide +kernel)]; exact ⟨rfl, rfl⟩))
    (fun os started H enc _ => quotBack_lifted os started H enc)
#print axioms quotBack_holds
end Go.Proofs.Ytkgkdlgoakgnkaa
