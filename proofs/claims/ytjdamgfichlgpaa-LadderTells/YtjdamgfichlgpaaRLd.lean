/- The document's ladder: Ladder. -/
import Derived.Test.YtjdamgfichlgpaaRRg
import Derived.Test.YtjdamgfichlgpaaUpY
import Derived.Test.YtjdamgfichlgpaaGrp41
import Derived.Test.YtjdamgfichlgpaaGrp41
import Derived.Test.YtjdamgfichlgpaaFeP
namespace Go.Proofs.Ytjdamgfichlgpaa
open Go.RowKit
attribute [local go_sem] World.cell?_alloc_some cell_alloc2 cell_alloc3 cell_alloc4 frozen?_alloc_cells frozen_out
attribute [local simp] MP.eq_p
set_option linter.unusedSimpArgs false
theorem cfOfn (args : Array Value) (W : World) : (callFunc 41 args).run Try.prog W = .ok (.enter 41 args) W := cf_is (fn := Try.f41) (by kernel_rfl) (by decide) (by kernel_rfl) args W
theorem cfRun (args : Array Value) (W : World) : (callFunc 40 args).run Try.prog W = .ok (.enter 40 args) W := cf_is (fn := Try.f40) (by kernel_rfl) (by decide) (by kernel_rfl) args W
theorem yields_ld4 {o : Oper} {a : Act} {w : World} {k : Nat} {x : Nm} {L : List (Nat × List Value)} {i : Nat} (s : Operand) (ho : o.op = .load 24 s) (hs : a.eval s = .pointer (some ⟨k, 0, none⟩)) (h : Kn w L) (hi : L[i]? = some (k, c4 x)) : YieldsP Try.prog o a w (MP.eq (N x)).p := by
  have u0 := Kn.get h i 0 hi rfl
  have u1 := Kn.get h i 1 hi rfl
  have u2 := Kn.get h i 2 hi rfl
  have u3 := Kn.get h i 3 hi rfl
  have e : (execOp a.eval o).run Try.prog w = .ok (.value (N x)) w := by
    generalize a.eval = ev at *
    unfold execOp
    simp [ho, hs, go_sem, u0, u1, u2, u3]
  unfold YieldsP
  rw [e]
  exact ⟨rfl, Below.refl _ _⟩
theorem Kn.fresh2 {W w1 : World} {L : List (Nat × List Value)} {k j : Nat} {vs us : List Value} (h : Kn W L) (hb : Below W.heap.size W w1) (hk : W.heap.size ≤ k) (hj : W.heap.size ≤ j) (hne : k ≠ j) (bk : Blk w1 k vs) (bj : Blk w1 j us) : Kn w1 ((k, vs) :: (j, us) :: L) := by
  have h1 := h.fresh_of hb hj bj
  refine ⟨?_, fun p hp => ?_⟩
  · refine List.nodup_cons.2 ⟨fun hm => ?_, h1.nd⟩
    obtain ⟨p, hp, e⟩ := List.mem_map.1 hm
    rcases List.mem_cons.1 hp with rfl | hp
    · exact hne e.symm
    · have := (h.all p hp).lt
      simp only at e
      omega
  · rcases List.mem_cons.1 hp with rfl | hp
    · exact bk
    · exact h1.all p hp
set_option maxRecDepth 20000 in
set_option maxHeartbeats 2000000 in
theorem rLad_walk (k u p : Nm) (x K qx qz rx rz iv mm : Nat)
    (FD : ∀ w, Calls Try.prog 12 #[N u] w fun e w' => e = .returned (.agg (fR (x)).toArray) ∧ Below w.heap.size w w')
    (ON : Hid (∀ w, Calls Try.prog 41 #[N k] w fun e w' => (∃ v', e = .returned v' ∧ Sl w' v' (P.dg K)) ∧ Below w.heap.size w w'))
    (RG : Hid (∀ v w, Sl w v (P.dg K) → Calls Try.prog 40 #[v, .agg (fR x).toArray] w fun e w' => e = .returned (.tuple #[twV qx qz, twV rx rz]) ∧ Below w.heap.size w w'))
    (IV : ∀ w, Calls Try.prog 16 #[.agg (fR (qz)).toArray] w fun e w' => e = .returned (.agg (fR (iv)).toArray) ∧ Below w.heap.size w w')
    (MU : ∀ w, Calls Try.prog 14 #[.agg (fR (qx)).toArray, .agg (fR (iv)).toArray] w fun e w' => e = .returned (.agg (fR (mm)).toArray) ∧ Below w.heap.size w w')
    (NU : ∀ w, Calls Try.prog 17 #[.agg (fR (mm)).toArray] w fun e w' => e = .returned (N p) ∧ Below w.heap.size w w')
    (w : World) :
    Calls Try.prog 10 #[N k, N u] w fun e w' => e = .returned (N p) ∧ Below w.heap.size w w' := by
  go_enter Try.func10, Try.ntmps10
  have s0 : Hid (Kn (kz4 (kal4 (kal4 w (k)) (u))) [(w.heap.size + 1 + 1, zz4), (w.heap.size + 1, (c4 (u))), (w.heap.size, (c4 (k)))]) := ((((Kn.nil w).al (c4 (k)) 24 rfl).al (c4 (u)) 24 (by simp)).al zz4 24 (by simp))
  have b0 : Hid (Below w.heap.size w (kz4 (kal4 (kal4 w (k)) (u)))) := ((((Below.refl _ _).alloc (Nat.le_refl _) _).alloc (by simp <;> omega) _).alloc (by simp <;> omega) _)
  go_wp2_with fail
  refine (FD _).mono ?_
  rintro e w1 ⟨rfl, hb1⟩
  have s1 : Hid (Kn w1 [(w.heap.size + 1 + 1, zz4), (w.heap.size + 1, (c4 (u))), (w.heap.size, (c4 (k)))]) := s0.out.up hb1
  have b1 : Hid (Below w.heap.size w w1) := b0.out.trans (hb1.mono b0.out.size)
  have z1 := b1.out.size
  clear hb1 s0 b0
  have s2x : Hid (Kn (w1.alloc (.cells #[Value.int IntKind.i64 0, Value.int IntKind.i64 0, Value.int IntKind.i64 0, Value.int IntKind.i64 0, Value.int IntKind.i64 0, Value.int IntKind.i64 0, Value.int IntKind.i64 0, Value.int IntKind.i64 0, Value.int IntKind.i64 0, Value.int IntKind.i64 0, Value.int IntKind.i64 0, Value.int IntKind.i64 0, Value.int IntKind.i64 0, Value.int IntKind.i64 0, Value.int IntKind.i64 0, Value.int IntKind.i64 0] 33)) [(w1.heap.size, fZ), (w.heap.size + 1 + 1, zz4), (w.heap.size + 1, (c4 (u))), (w.heap.size, (c4 (k)))]) := s1.out.al fZ 33 rfl
  have b2x : Hid (Below w.heap.size w (w1.alloc (.cells #[Value.int IntKind.i64 0, Value.int IntKind.i64 0, Value.int IntKind.i64 0, Value.int IntKind.i64 0, Value.int IntKind.i64 0, Value.int IntKind.i64 0, Value.int IntKind.i64 0, Value.int IntKind.i64 0, Value.int IntKind.i64 0, Value.int IntKind.i64 0, Value.int IntKind.i64 0, Value.int IntKind.i64 0, Value.int IntKind.i64 0, Value.int IntKind.i64 0, Value.int IntKind.i64 0, Value.int IntKind.i64 0] 33))) := b1.out.alloc b1.out.size _
  have g2 : w.heap.size ≤ w1.heap.size := b1.out.size
  have TT2 : Hid ((w1.alloc (.cells #[Value.int IntKind.i64 0, Value.int IntKind.i64 0, Value.int IntKind.i64 0, Value.int IntKind.i64 0, Value.int IntKind.i64 0, Value.int IntKind.i64 0, Value.int IntKind.i64 0, Value.int IntKind.i64 0, Value.int IntKind.i64 0, Value.int IntKind.i64 0, Value.int IntKind.i64 0, Value.int IntKind.i64 0, Value.int IntKind.i64 0, Value.int IntKind.i64 0, Value.int IntKind.i64 0, Value.int IntKind.i64 0] 33)).there (w1.heap.size) 0 (fR (x)).length) := Kn.there s2x.out 0 rfl (by rw [(fR_length (x)), fZ_length])
  go_wp2_with (first | simp only [I.zero_fe] | refine I.wp_store_eq rfl 33 _ _ rfl (w1.heap.size) 0 (fR (x)) rfl rfl TT2.out (info_fR (x)) (I.one_dI _) ?_)
  intro w2 hw2
  try simp only [Act.put, List.setIfInBounds_toArray, List.set_cons_succ, List.set_cons_zero]
  have s2 : Hid (Kn w2 [(w1.heap.size, (fR (x))), (w.heap.size + 1 + 1, zz4), (w.heap.size + 1, (c4 (u))), (w.heap.size, (c4 (k)))]) := by rw [hw2.out]; exact Kn.put s2x.out (by rw [(fR_length (x)), fZ_length])
  have b2 : Hid (Below w.heap.size w w2) := by rw [hw2.out]; exact I.below_setCells _ _ _ b2x.out g2
  have z2 := b2.out.size
  clear hw2 s2x b2x TT2 s1 b1
  go_wp2_with fail
  have G2 : Hid _ := s2
  refine wp_region_monoYE 9 6 (twV rx rz) [7,8] [MP.eq (N k), MP.sl (P.dg K), MP.eq (.agg (fR x).toArray), MP.eq (.tuple #[twV qx qz, twV rx rz]), MP.eq (.tuple #[twV qx qz, twV rx rz]), MP.eq (twV qx qz), MP.eq (twV rx rz), MP.made w2.heap.size tZ, MP.made w2.heap.size tZ] (by kernel_rfl) (by kernel_rfl) rfl (by decide) (by kernel_rfl) (by kernel_rfl) (by decide) (by kernel_rfl) (fun _ _ d _ _ h => by cases d <;> exact h) rfl (by decide) ?_ ?_
  · intro i hi
    simp only [List.mem_cons, List.not_mem_nil, or_false] at hi
    rcases hi with rfl | rfl <;> exact ⟨by decide, fun o ho a9 w9 => by obtain rfl := Option.some.inj ho; exact ⟨_, run_mk rfl zero_t2 a9 w9⟩⟩
  apply Exists.intro
  refine ⟨fun vals => ?_, ?_, fun of hof vals W hW hd => ?_, fun vals3 w3 hb3 hF hO hAp => ?_⟩
  · simp only [putsV, dstL, List.length_cons, List.length_nil, Nat.zero_add, Nat.reduceAdd, List.getElem?_cons_zero, List.getElem?_cons_succ, Option.bind_some, Act.put, List.setIfInBounds_toArray, List.set_cons_succ, List.set_cons_zero]
    rfl
  · refine ⟨?_, ?_, ?_, ?_, ?_, ?_, ?_, ?_, ?_, trivial⟩
    · intro vals W hW hw hd
      try simp [Region.binds] at hd
      refine ⟨by first | rfl | simp [Region.wanted, yielded, hd], ?_⟩
      exact yields_ld4 (.tmp 2) rfl rfl (G2.out.up hW.out) (i := 3) rfl
    · intro vals W hW hw hd
      try simp [Region.binds] at hd
      refine ⟨by first | rfl | simp [Region.wanted, yielded, hd], ?_⟩
      exact yields_call1 cfOfn (.tmp 11) _ rfl (N k) (by exact hd) ((ON.out W).mono fun e w' ⟨⟨v, he, h⟩, hb⟩ => ⟨v, he, h, hb⟩)
    · intro vals W hW hw hd
      try simp [Region.binds] at hd
      refine ⟨by first | rfl | simp [Region.wanted, yielded, hd], ?_⟩
      exact I.yields_ld 33 (.tmp 5) rfl w1.heap.size 0 rfl (fR x) _ (Kn.rng (G2.out.up hW.out) 0 rfl) I.u_fe rfl (info_fR x) rfl
    · intro vals W hW hw hd
      try simp [Region.binds] at hd
      refine ⟨by first | rfl | simp [Region.wanted, yielded, hd], ?_⟩
      exact yields_call2 cfRun (.tmp 12) (.tmp 13) _ rfl _ (.agg (fR x).toArray) rfl (by exact hd.2.1) ((RG.out _ W hd.1).mono fun e w' ⟨he, hb⟩ => ⟨_, he, rfl, hb⟩)
    · intro vals W hW hw hd
      try simp [Region.binds] at hd
      refine ⟨by first | rfl | simp [Region.wanted, yielded, hd], ?_⟩
      exact yields_mv (.tmp 14) rfl (by exact hd)
    · intro vals W hW hw hd
      try simp [Region.binds] at hd
      refine ⟨by first | rfl | simp [Region.wanted, yielded, hd], ?_⟩
      exact yields_ext (.tmp 10) 0 rfl (by exact hd) rfl
    · intro vals W hW hw hd
      try simp [Region.binds] at hd
      refine ⟨by first | rfl | simp [Region.wanted, yielded, hd], ?_⟩
      exact yields_ext (.tmp 10) 1 rfl (by exact hd) rfl
    · intro vals W hW hw hd
      try simp [Region.binds] at hd
      refine ⟨by first | rfl | simp [Region.wanted, yielded, hd], ?_⟩
      exact yields_mk rfl zero_t2 hW.out.size
    · intro vals W hW hw hd
      try simp [Region.binds] at hd
      refine ⟨by first | rfl | simp [Region.wanted, yielded, hd], ?_⟩
      exact yields_mk rfl zero_t2 hW.out.size
  · obtain rfl := Option.some.inj hof
    try simp [Region.binds] at hd
    exact Or.inl ⟨by first | rfl | simp [Region.wanted, yielded, hd], fun w9 => by simp [go_sem, execOp, hd]⟩
  obtain ⟨f0, f1, f2, f3, f4, f5, f6, f7, f8, _⟩ := hF
  simp only [MP.eq_p] at f0 f2 f3 f4 f5 f6
  obtain ⟨g1, e1, hg1, bg1⟩ := f7
  obtain ⟨g2, e2, hg2, bg2⟩ := f8
  have ne : g1 ≠ g2 := fun e => hAp.out 7 (by simp) 8 (by simp) (by decide) (by rw [e1, e2, e])
  rw [f0, f2, f3, f4, f5, f6, e1, e2]
  simp only [List.drop_succ_cons, List.drop_zero]
  have s3 : Hid (Kn w3 [(g1, tZ), (g2, tZ), (w1.heap.size, fR x), (w.heap.size + 1 + 1, zz4), (w.heap.size + 1, c4 u), (w.heap.size, c4 k)]) := Kn.fresh2 s2.out hb3.out hg1 hg2 ne bg1 bg2
  have b3 : Hid (Below w.heap.size w w3) := b2.out.trans (hb3.out.mono b2.out.size)
  have gg1 : w.heap.size ≤ g1 := Nat.le_trans b2.out.size hg1
  have gg2 : w.heap.size ≤ g2 := Nat.le_trans b2.out.size hg2
  clear f0 f1 f2 f3 f4 f5 f6 e1 e2 hg1 hg2 bg1 bg2 hO hb3 s2 b2 G2 hAp ne
  have s4x : Hid (Kn w3 [(g1, tZ), (g2, tZ), (w1.heap.size, (fR (x))), (w.heap.size + 1 + 1, zz4), (w.heap.size + 1, (c4 (u))), (w.heap.size, (c4 (k)))]) := s3.out.front 0 rfl
  have b4x : Hid (Below w.heap.size w w3) := b3.out
  have TT4 : Hid (w3.there g1 0 (twR (qx) (qz)).length) := Kn.there s4x.out 0 rfl (by rw [(twR_length (qx) (qz)), tZ_length])
  go_wp2_with (first | refine I.wp_store_eq rfl 60 _ _ rfl g1 0 (twR (qx) (qz)) rfl rfl TT4.out (info_twR (qx) (qz)) (twR_one (qx) (qz)) ?_)
  intro w4 hw4
  try simp only [Act.put, List.setIfInBounds_toArray, List.set_cons_succ, List.set_cons_zero]
  have s4 : Hid (Kn w4 [(g1, (twR (qx) (qz))), (g2, tZ), (w1.heap.size, (fR (x))), (w.heap.size + 1 + 1, zz4), (w.heap.size + 1, (c4 (u))), (w.heap.size, (c4 (k)))]) := by rw [hw4.out]; exact Kn.put s4x.out (by rw [(twR_length (qx) (qz)), tZ_length])
  have b4 : Hid (Below w.heap.size w w4) := by rw [hw4.out]; exact I.below_setCells _ _ _ b4x.out (by omega)
  have z4 := b4.out.size
  clear hw4 s4x b4x TT4 s3 b3
  have s5x : Hid (Kn w4 [(g2, tZ), (g1, (twR (qx) (qz))), (w1.heap.size, (fR (x))), (w.heap.size + 1 + 1, zz4), (w.heap.size + 1, (c4 (u))), (w.heap.size, (c4 (k)))]) := s4.out.front 1 rfl
  have b5x : Hid (Below w.heap.size w w4) := b4.out
  have TT5 : Hid (w4.there g2 0 (twR (rx) (rz)).length) := Kn.there s5x.out 0 rfl (by rw [(twR_length (rx) (rz)), tZ_length])
  go_wp2_with (first | refine I.wp_store_eq rfl 60 _ _ rfl g2 0 (twR (rx) (rz)) rfl rfl TT5.out (info_twR (rx) (rz)) (twR_one (rx) (rz)) ?_)
  intro w5 hw5
  try simp only [Act.put, List.setIfInBounds_toArray, List.set_cons_succ, List.set_cons_zero]
  have s5 : Hid (Kn w5 [(g2, (twR (rx) (rz))), (g1, (twR (qx) (qz))), (w1.heap.size, (fR (x))), (w.heap.size + 1 + 1, zz4), (w.heap.size + 1, (c4 (u))), (w.heap.size, (c4 (k)))]) := by rw [hw5.out]; exact Kn.put s5x.out (by rw [(twR_length (rx) (rz)), tZ_length])
  have b5 : Hid (Below w.heap.size w w5) := by rw [hw5.out]; exact I.below_setCells _ _ _ b5x.out (by omega)
  have z5 := b5.out.size
  clear hw5 s5x b5x TT5 s4 b4
  go_wp2_with fail
  refine wp_region_up_then 7 (by kernel_rfl) (by kernel_rfl) (by kernel_rfl) (by kernel_rfl) (by decide) (fun _ _ d _ _ h => by cases d <;> exact h) (fun U hU f hf hcl => ?_)
  have ra_q_0 := fun nx => (Kn.rng (s5.out.up (hf nx).out) 1 rfl : (f nx).rangeAt g1 0 (twR (qx) (qz)))
  have ra_q_1 := fun nx => (Kn.tng0 (s5.out.up (hf nx).out) 1 rfl : (f nx).rangeAt g1 0 (fR (qx)))
  have ra_q_2 := fun nx => (Kn.tng1 (s5.out.up (hf nx).out) 1 rfl : (f nx).rangeAt g1 16 (fR (qz)))
  simp only [List.take_succ_cons, List.take_zero, List.drop_succ_cons, List.drop_zero]
  repeat (first | (refine I.quiet_load rfl 60 _ rfl g1 0 rfl (twR (qx) (qz)) _ (fun W hW => by obtain ⟨nx, rfl⟩ := hW; exact ra_q_0 nx) Try.underlying60 rfl (info_twR (qx) (qz)) ?_; simp only [Act.put, List.setIfInBounds_toArray, List.set_cons_succ, List.set_cons_zero]) | (refine I.quiet_load rfl 33 _ rfl g1 0 rfl (fR (qx)) _ (fun W hW => by obtain ⟨nx, rfl⟩ := hW; exact ra_q_1 nx) Try.underlying33 rfl (info_fR (qx)) ?_; simp only [Act.put, List.setIfInBounds_toArray, List.set_cons_succ, List.set_cons_zero]) | (refine I.quiet_load rfl 33 _ rfl g1 16 rfl (fR (qz)) _ (fun W hW => by obtain ⟨nx, rfl⟩ := hW; exact ra_q_2 nx) Try.underlying33 rfl (info_fR (qz)) ?_; simp only [Act.put, List.setIfInBounds_toArray, List.set_cons_succ, List.set_cons_zero]) | go_big_quiet_step (first | (go_at_call 16; exact (IV _).mono fun e w'' ⟨he, hb⟩ => ⟨he, hcl.out _ _ hb⟩) | (go_at_call 14; exact (MU _).mono fun e w'' ⟨he, hb⟩ => ⟨he, hcl.out _ _ hb⟩) | (go_at_call 17; exact (NU _).mono fun e w'' ⟨he, hb⟩ => ⟨he, hcl.out _ _ hb⟩)))
  refine wpQuiet_nil ?_
  intro nx
  have hb6 := (hf nx).out
  clear hf hcl
  generalize f nx = w6 at hb6 ⊢
  have s6 : Hid (Kn w6 [(g2, (twR (rx) (rz))), (g1, (twR (qx) (qz))), (w1.heap.size, (fR (x))), (w.heap.size + 1 + 1, zz4), (w.heap.size + 1, (c4 (u))), (w.heap.size, (c4 (k)))]) := s5.out.up hb6
  have b6 : Hid (Below w.heap.size w w6) := b5.out.trans (hb6.mono b5.out.size)
  have z6 := b6.out.size
  clear hb6 s5 b5
  have uro_0 : w6.cell? ⟨w.heap.size + 1 + 1, 0, none⟩ = some (.int .u64 0) := Kn.get s6.out 3 0 rfl rfl
  have uro_1 : w6.cell? ⟨w.heap.size + 1 + 1, 1, none⟩ = some (.int .u64 0) := Kn.get s6.out 3 1 rfl rfl
  have uro_2 : w6.cell? ⟨w.heap.size + 1 + 1, 2, none⟩ = some (.int .u64 0) := Kn.get s6.out 3 2 rfl rfl
  have uro_3 : w6.cell? ⟨w.heap.size + 1 + 1, 3, none⟩ = some (.int .u64 0) := Kn.get s6.out 3 3 rfl rfl
  have uro_z : ∀ j, w6.frozen? ⟨w.heap.size + 1 + 1, j, none⟩ = false := Kn.fz s6.out 3 rfl
  have s7 : Hid (Kn (st4 w6 (w.heap.size + 1 + 1) (p)) [(w.heap.size + 1 + 1, (c4 (p))), (g2, (twR (rx) (rz))), (g1, (twR (qx) (qz))), (w1.heap.size, (fR (x))), (w.heap.size + 1, (c4 (u))), (w.heap.size, (c4 (k)))]) := Kn.st4 (L := [(g2, (twR (rx) (rz))), (g1, (twR (qx) (qz))), (w1.heap.size, (fR (x))), (w.heap.size + 1, (c4 (u))), (w.heap.size, (c4 (k)))]) (s6.out.front 3 rfl) (p)
  have b7 : Hid (Below w.heap.size w (st4 w6 (w.heap.size + 1 + 1) (p))) := below_st4 b6.out (by omega)
  clear s6 b6
  go_wp2_with fail
  clear uro_0 uro_1 uro_2 uro_3 uro_z
  have urr_0 : (st4 w6 (w.heap.size + 1 + 1) (p)).cell? ⟨w.heap.size + 1 + 1, 0, none⟩ = some (.int .u64 (p).a) := Kn.get s7.out 0 0 rfl rfl
  have urr_1 : (st4 w6 (w.heap.size + 1 + 1) (p)).cell? ⟨w.heap.size + 1 + 1, 1, none⟩ = some (.int .u64 (p).b) := Kn.get s7.out 0 1 rfl rfl
  have urr_2 : (st4 w6 (w.heap.size + 1 + 1) (p)).cell? ⟨w.heap.size + 1 + 1, 2, none⟩ = some (.int .u64 (p).c) := Kn.get s7.out 0 2 rfl rfl
  have urr_3 : (st4 w6 (w.heap.size + 1 + 1) (p)).cell? ⟨w.heap.size + 1 + 1, 3, none⟩ = some (.int .u64 (p).d) := Kn.get s7.out 0 3 rfl rfl
  refine bodyPost_ret (v := N p) ?_ rfl ⟨rfl, b7.out⟩
  show (results Try.f10 _).run Try.prog (st4 w6 (w.heap.size + 1 + 1) (p)) = .ok _ (st4 w6 (w.heap.size + 1 + 1) (p))
  clear s7 b7
  generalize (st4 w6 (w.heap.size + 1 + 1) (p)) = W9 at *
  simp [results, Try.results10, go_sem, urr_0, urr_1, urr_2, urr_3]
theorem rLad_fun (k u : Nm) (ok : k.ok) (ou : u.ok) (w : World) : Calls Try.prog 10 #[N k, N u] w fun e w' => e = .returned (N (nm (Cv.lad k.nat u.nat))) ∧ Below w.heap.size w w' := by
  have lk := Nm.nat_lt ok
  have hu := F.mod_lt u.nat
  have lt := Cv.rg_lt hu 256 k.nat
  rw [Cv.lad_rg k.nat u.nat lk]
  exact rLad_walk k u _ (u.nat % F.p) k.nat _ _ _ _ _ _ (I.field_fe u ou) (ofNum_fun k ok) (fun v w s => rungs_n hu k.nat lk v w s) (I.over_fe _ lt.1.2) (I.by_fe _ _ lt.1.1 (F.inv_lt _)) (I.num_fe _ (F.mul_lt _ _)) w
end Go.Proofs.Ytjdamgfichlgpaa
