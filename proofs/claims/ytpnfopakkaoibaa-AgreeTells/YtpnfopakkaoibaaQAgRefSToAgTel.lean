/- Texts that were joined: AgRefS, AgTel. -/
import Derived.Test.YtpnfopakkaoibaaQAgRef
/- Two that agree, as the document has them: SharedOf, by numbers. -/
namespace Go.Proofs.Ytpnfopakkaoibaa
open Go.RowKit
set_option linter.unusedSimpArgs false
theorem rShared_fun (n m : Nat) (hn : n < 2 ^ 256) (hm : m < 2 ^ 256) (w : World) : Calls Try.prog 9 #[bV n, bV m] w fun e w' => e = .returned (shV (Ag.sh n m)) ∧ Below w.heap.size w w' := by
  obtain ⟨Q, hQ⟩ : ∃ Q : Nat, 2 ^ 255 = Q := ⟨_, rfl⟩
  have hq : 0 < Q ∧ Q < 65536 ^ 64 ∧ Q < 2 ^ 256 := by rw [← hQ]; decide
  have TW : ∀ W, Calls Try.prog 26 #[.int .i64 255] W fun e w' => (∃ v', e = .returned v' ∧ Sl w' v' (P.dg Q)) ∧ Below W.heap.size W w' := fun W => by rw [← hQ]; exact twoTo_n 255 (by decide) W
  have hu : m % Q < 2 ^ 256 := Nat.lt_trans (Nat.mod_lt _ hq.1) hq.2.2
  have LA := rLad_fun (nm (Ag.cl n)) (nm (m % Q)) (nm_ok _) (nm_ok _)
  rw [nm_nat (Ag.cl_lt256 n), nm_nat hu] at LA
  have hs : Cv.lad (Ag.cl n) (m % Q) = Ag.sh n m := by rw [← hQ]; rfl
  rw [hs] at LA
  have NU : ∀ v W, By W v (S.by m) → Calls Try.prog 25 #[v] W fun e w' => (∃ v', e = .returned v' ∧ Sl w' v' (P.dg m)) ∧ Below W.heap.size W w' := fun v W h => by
    have := number_fun (S.by m) (S.by_low m) (by rw [S.by_length]; decide) v W h
    rwa [S.le_by hm] at this
  have RE := fun x y W => rest_n m Q (Nat.lt_trans hm (by decide)) hq.1 hq.2.1 x y W
  have TN := fun x W => toNum_of (m % Q) hu x W
  clear hs hQ
  have lk := Ag.lt_256 (Ag.sh_lt n m)
  generalize Ag.sh n m = k at *
  have ON : ∀ W, Calls Try.prog 29 #[N (nm k)] W fun e w' => (∃ a c, e = .returned (.slice a (P.dg k).length c)) ∧ Below W.heap.size W w' := fun W => by
    refine (ofNum_fun (nm k) (nm_ok _) W).mono ?_
    rintro e w' ⟨⟨v', rfl, h⟩, hb⟩
    rw [nm_nat lk] at h
    obtain ⟨a, c, rfl⟩ := h.parts
    exact ⟨⟨a, c, rfl⟩, hb⟩
  by_cases hz : k = 0
  · have e : shV k = .tuple #[bV 0, .int .i64 1] := by
      subst hz
      rfl
    rw [e]
    have hl : (P.dg k).length = 0 := by rw [hz, P.dg_zero]; rfl
    rw [hl] at ON
    exact rShared_no n m _ _ _ _ _ NU TW RE TN (rClamp_fun n hn) LA ON w
  · have e : shV k = .tuple #[bV k, .int .i64 0] := by
      show Value.tuple #[bV k, .int .i64 (if k = 0 then 1 else 0)] = _
      rw [if_neg hz]
    rw [e]
    have hl : ¬ (((P.dg k).length : Nat) : Int) = 0 := by
      rw [P.dg_pos (by omega), List.length_cons]
      omega
    exact rShared_yes n m _ _ _ _ _ _ _ hl NU TW RE TN (rClamp_fun n hn) LA ON (bytesOf_fun _ lk) w
end Go.Proofs.Ytpnfopakkaoibaa

/- AgreeTells, out of package agree's contracts and the document's. -/
namespace Go.Proofs.Ytpnfopakkaoibaa
open Go.RowKit
attribute [local go_sem] World.cell?_alloc_some cell_alloc2 cell_alloc3 cell_alloc4 frozen?_alloc_cells frozen_out
set_option linter.unusedSimpArgs false
set_option maxRecDepth 20000 in
set_option maxHeartbeats 2000000 in
theorem agreeTells_walk (n m k q : Nat) (er : Int) (c : Nm)
    (ec : ∀ w, (binOp .eql 28 (N c) (N c)).run Try.prog w = .ok (.bool true) w) (eq : ∀ w, (binOp .eql 22 (bV q) (bV q)).run Try.prog w = .ok (.bool true) w) (ek : ∀ w, (binOp .eql 22 (bV k) (bV k)).run Try.prog w = .ok (.bool true) w)
    (S1 : ∀ w, Calls Try.prog 8 #[.agg (bR (n)).toArray, .agg (bR (m)).toArray] w fun e w' => e = .returned (.tuple #[.agg (bR (k)).toArray, .int .i64 er]) ∧ Below w.heap.size w w')
    (S2 : ∀ w, Calls Try.prog 9 #[.agg (bR (n)).toArray, .agg (bR (m)).toArray] w fun e w' => e = .returned (.tuple #[.agg (bR (k)).toArray, .int .i64 er]) ∧ Below w.heap.size w w')
    (C1 : ∀ w, Calls Try.prog 10 #[.agg (bR (n)).toArray] w fun e w' => e = .returned (N c) ∧ Below w.heap.size w w')
    (C2 : ∀ w, Calls Try.prog 11 #[.agg (bR (n)).toArray] w fun e w' => e = .returned (N c) ∧ Below w.heap.size w w')
    (P1 : ∀ w, Calls Try.prog 12 #[.agg (bR (n)).toArray] w fun e w' => e = .returned (.agg (bR (q)).toArray) ∧ Below w.heap.size w w')
    (P2 : ∀ w, Calls Try.prog 13 #[.agg (bR (n)).toArray] w fun e w' => e = .returned (.agg (bR (q)).toArray) ∧ Below w.heap.size w w')
    (w : World) :
    Calls Try.prog 3 #[bV n, bV m] w fun e w' => e = .returned (.bool true) ∧ Below w.heap.size w w' := by
  go_enter Try.func3, Try.ntmps3
  have s0 : Hid (Kn ((w.alloc (.cells (bR (n)).toArray 22)).alloc (.cells (bR (m)).toArray 22)) [(w.heap.size + 1, (bR (m))), (w.heap.size, (bR (n)))]) := (((Kn.nil w).al (bR (n)) 22 rfl).al (bR (m)) 22 (by simp))
  have b0 : Hid (Below w.heap.size w ((w.alloc (.cells (bR (n)).toArray 22)).alloc (.cells (bR (m)).toArray 22))) := (((Below.refl _ _).alloc (Nat.le_refl _) _).alloc (by simp <;> omega) _)
  go_wp2_with (first | refine wp_ldW rfl 22 _ rfl (w.heap.size) 0 rfl (bR (n)) _ (Kn.rng s0.out 1 rfl) Try.underlying22 rfl (info_bR (n)) ?_ | refine wp_ldW rfl 22 _ rfl (w.heap.size + 1) 0 rfl (bR (m)) _ (Kn.rng s0.out 0 rfl) Try.underlying22 rfl (info_bR (m)) ?_)
  refine (S1 _).mono ?_
  rintro e w1 ⟨rfl, hb1⟩
  have s1 : Hid (Kn w1 [(w.heap.size + 1, (bR (m))), (w.heap.size, (bR (n)))]) := s0.out.up hb1
  have b1 : Hid (Below w.heap.size w w1) := b0.out.trans (hb1.mono b0.out.size)
  have z1 := b1.out.size
  clear hb1 s0 b0
  have s2x : Hid (Kn (w1.alloc (.cells #[Value.int IntKind.u8 0, Value.int IntKind.u8 0, Value.int IntKind.u8 0, Value.int IntKind.u8 0, Value.int IntKind.u8 0, Value.int IntKind.u8 0, Value.int IntKind.u8 0, Value.int IntKind.u8 0, Value.int IntKind.u8 0, Value.int IntKind.u8 0, Value.int IntKind.u8 0, Value.int IntKind.u8 0, Value.int IntKind.u8 0, Value.int IntKind.u8 0, Value.int IntKind.u8 0, Value.int IntKind.u8 0, Value.int IntKind.u8 0, Value.int IntKind.u8 0, Value.int IntKind.u8 0, Value.int IntKind.u8 0, Value.int IntKind.u8 0, Value.int IntKind.u8 0, Value.int IntKind.u8 0, Value.int IntKind.u8 0, Value.int IntKind.u8 0, Value.int IntKind.u8 0, Value.int IntKind.u8 0, Value.int IntKind.u8 0, Value.int IntKind.u8 0, Value.int IntKind.u8 0, Value.int IntKind.u8 0, Value.int IntKind.u8 0] 22)) [(w1.heap.size, bZ), (w.heap.size + 1, (bR (m))), (w.heap.size, (bR (n)))]) := s1.out.al bZ 22 rfl
  have b2x : Hid (Below w.heap.size w (w1.alloc (.cells #[Value.int IntKind.u8 0, Value.int IntKind.u8 0, Value.int IntKind.u8 0, Value.int IntKind.u8 0, Value.int IntKind.u8 0, Value.int IntKind.u8 0, Value.int IntKind.u8 0, Value.int IntKind.u8 0, Value.int IntKind.u8 0, Value.int IntKind.u8 0, Value.int IntKind.u8 0, Value.int IntKind.u8 0, Value.int IntKind.u8 0, Value.int IntKind.u8 0, Value.int IntKind.u8 0, Value.int IntKind.u8 0, Value.int IntKind.u8 0, Value.int IntKind.u8 0, Value.int IntKind.u8 0, Value.int IntKind.u8 0, Value.int IntKind.u8 0, Value.int IntKind.u8 0, Value.int IntKind.u8 0, Value.int IntKind.u8 0, Value.int IntKind.u8 0, Value.int IntKind.u8 0, Value.int IntKind.u8 0, Value.int IntKind.u8 0, Value.int IntKind.u8 0, Value.int IntKind.u8 0, Value.int IntKind.u8 0, Value.int IntKind.u8 0] 22))) := b1.out.alloc b1.out.size _
  have g2 : w.heap.size ≤ w1.heap.size := b1.out.size
  have TT2 : Hid ((w1.alloc (.cells #[Value.int IntKind.u8 0, Value.int IntKind.u8 0, Value.int IntKind.u8 0, Value.int IntKind.u8 0, Value.int IntKind.u8 0, Value.int IntKind.u8 0, Value.int IntKind.u8 0, Value.int IntKind.u8 0, Value.int IntKind.u8 0, Value.int IntKind.u8 0, Value.int IntKind.u8 0, Value.int IntKind.u8 0, Value.int IntKind.u8 0, Value.int IntKind.u8 0, Value.int IntKind.u8 0, Value.int IntKind.u8 0, Value.int IntKind.u8 0, Value.int IntKind.u8 0, Value.int IntKind.u8 0, Value.int IntKind.u8 0, Value.int IntKind.u8 0, Value.int IntKind.u8 0, Value.int IntKind.u8 0, Value.int IntKind.u8 0, Value.int IntKind.u8 0, Value.int IntKind.u8 0, Value.int IntKind.u8 0, Value.int IntKind.u8 0, Value.int IntKind.u8 0, Value.int IntKind.u8 0, Value.int IntKind.u8 0, Value.int IntKind.u8 0] 22)).there (w1.heap.size) 0 (bR (k)).length) := Kn.there s2x.out 0 rfl (by rw [(bR_length (k)), bZ_length])
  go_wp2_with (first | simp only [zero_b32] | refine I.wp_store_eq rfl 22 _ _ rfl (w1.heap.size) 0 (bR (k)) rfl rfl TT2.out (info_bR (k)) (bR_one (k)) ?_)
  intro w2 hw2
  try simp only [Act.put, List.setIfInBounds_toArray, List.set_cons_succ, List.set_cons_zero]
  have s2 : Hid (Kn w2 [(w1.heap.size, (bR (k))), (w.heap.size + 1, (bR (m))), (w.heap.size, (bR (n)))]) := by rw [hw2.out]; exact Kn.put s2x.out (by rw [(bR_length (k)), bZ_length])
  have b2 : Hid (Below w.heap.size w w2) := by rw [hw2.out]; exact I.below_setCells _ _ _ b2x.out g2
  have z2 := b2.out.size
  clear hw2 s2x b2x TT2 s1 b1
  go_wp2_with (first | refine wp_ldW rfl 22 _ rfl (w.heap.size) 0 rfl (bR (n)) _ (Kn.rng s2.out 2 rfl) Try.underlying22 rfl (info_bR (n)) ?_ | refine wp_ldW rfl 22 _ rfl (w.heap.size + 1) 0 rfl (bR (m)) _ (Kn.rng s2.out 1 rfl) Try.underlying22 rfl (info_bR (m)) ?_)
  refine (S2 _).mono ?_
  rintro e w3 ⟨rfl, hb3⟩
  have s3 : Hid (Kn w3 [(w1.heap.size, (bR (k))), (w.heap.size + 1, (bR (m))), (w.heap.size, (bR (n)))]) := s2.out.up hb3
  have b3 : Hid (Below w.heap.size w w3) := b2.out.trans (hb3.mono b2.out.size)
  have z3 := b3.out.size
  clear hb3 s2 b2
  have s4x : Hid (Kn (w3.alloc (.cells #[Value.int IntKind.u8 0, Value.int IntKind.u8 0, Value.int IntKind.u8 0, Value.int IntKind.u8 0, Value.int IntKind.u8 0, Value.int IntKind.u8 0, Value.int IntKind.u8 0, Value.int IntKind.u8 0, Value.int IntKind.u8 0, Value.int IntKind.u8 0, Value.int IntKind.u8 0, Value.int IntKind.u8 0, Value.int IntKind.u8 0, Value.int IntKind.u8 0, Value.int IntKind.u8 0, Value.int IntKind.u8 0, Value.int IntKind.u8 0, Value.int IntKind.u8 0, Value.int IntKind.u8 0, Value.int IntKind.u8 0, Value.int IntKind.u8 0, Value.int IntKind.u8 0, Value.int IntKind.u8 0, Value.int IntKind.u8 0, Value.int IntKind.u8 0, Value.int IntKind.u8 0, Value.int IntKind.u8 0, Value.int IntKind.u8 0, Value.int IntKind.u8 0, Value.int IntKind.u8 0, Value.int IntKind.u8 0, Value.int IntKind.u8 0] 22)) [(w3.heap.size, bZ), (w1.heap.size, (bR (k))), (w.heap.size + 1, (bR (m))), (w.heap.size, (bR (n)))]) := s3.out.al bZ 22 rfl
  have b4x : Hid (Below w.heap.size w (w3.alloc (.cells #[Value.int IntKind.u8 0, Value.int IntKind.u8 0, Value.int IntKind.u8 0, Value.int IntKind.u8 0, Value.int IntKind.u8 0, Value.int IntKind.u8 0, Value.int IntKind.u8 0, Value.int IntKind.u8 0, Value.int IntKind.u8 0, Value.int IntKind.u8 0, Value.int IntKind.u8 0, Value.int IntKind.u8 0, Value.int IntKind.u8 0, Value.int IntKind.u8 0, Value.int IntKind.u8 0, Value.int IntKind.u8 0, Value.int IntKind.u8 0, Value.int IntKind.u8 0, Value.int IntKind.u8 0, Value.int IntKind.u8 0, Value.int IntKind.u8 0, Value.int IntKind.u8 0, Value.int IntKind.u8 0, Value.int IntKind.u8 0, Value.int IntKind.u8 0, Value.int IntKind.u8 0, Value.int IntKind.u8 0, Value.int IntKind.u8 0, Value.int IntKind.u8 0, Value.int IntKind.u8 0, Value.int IntKind.u8 0, Value.int IntKind.u8 0] 22))) := b3.out.alloc b3.out.size _
  have g4 : w.heap.size ≤ w3.heap.size := b3.out.size
  have TT4 : Hid ((w3.alloc (.cells #[Value.int IntKind.u8 0, Value.int IntKind.u8 0, Value.int IntKind.u8 0, Value.int IntKind.u8 0, Value.int IntKind.u8 0, Value.int IntKind.u8 0, Value.int IntKind.u8 0, Value.int IntKind.u8 0, Value.int IntKind.u8 0, Value.int IntKind.u8 0, Value.int IntKind.u8 0, Value.int IntKind.u8 0, Value.int IntKind.u8 0, Value.int IntKind.u8 0, Value.int IntKind.u8 0, Value.int IntKind.u8 0, Value.int IntKind.u8 0, Value.int IntKind.u8 0, Value.int IntKind.u8 0, Value.int IntKind.u8 0, Value.int IntKind.u8 0, Value.int IntKind.u8 0, Value.int IntKind.u8 0, Value.int IntKind.u8 0, Value.int IntKind.u8 0, Value.int IntKind.u8 0, Value.int IntKind.u8 0, Value.int IntKind.u8 0, Value.int IntKind.u8 0, Value.int IntKind.u8 0, Value.int IntKind.u8 0, Value.int IntKind.u8 0] 22)).there (w3.heap.size) 0 (bR (k)).length) := Kn.there s4x.out 0 rfl (by rw [(bR_length (k)), bZ_length])
  go_wp2_with (first | simp only [zero_b32] | refine I.wp_store_eq rfl 22 _ _ rfl (w3.heap.size) 0 (bR (k)) rfl rfl TT4.out (info_bR (k)) (bR_one (k)) ?_)
  intro w4 hw4
  try simp only [Act.put, List.setIfInBounds_toArray, List.set_cons_succ, List.set_cons_zero]
  have s4 : Hid (Kn w4 [(w3.heap.size, (bR (k))), (w1.heap.size, (bR (k))), (w.heap.size + 1, (bR (m))), (w.heap.size, (bR (n)))]) := by rw [hw4.out]; exact Kn.put s4x.out (by rw [(bR_length (k)), bZ_length])
  have b4 : Hid (Below w.heap.size w w4) := by rw [hw4.out]; exact I.below_setCells _ _ _ b4x.out g4
  have z4 := b4.out.size
  clear hw4 s4x b4x TT4 s3 b3
  go_wp2_with fail
  refine wp_region_up (by kernel_rfl) (by kernel_rfl) (fun U hU f hf hcl => ?_)
  have ra_s_0 := fun nx => (Kn.rng (s4.out.up (hf nx).out) 3 rfl : (f nx).rangeAt (w.heap.size) 0 (bR (n)))
  have ra_a_0 := fun nx => (Kn.rng (s4.out.up (hf nx).out) 1 rfl : (f nx).rangeAt (w1.heap.size) 0 (bR (k)))
  have ra_b_0 := fun nx => (Kn.rng (s4.out.up (hf nx).out) 0 rfl : (f nx).rangeAt (w3.heap.size) 0 (bR (k)))
  try simp only [List.append_eq, List.cons_append, List.nil_append]
  repeat (first | (refine I.quiet_load rfl 22 _ rfl (w.heap.size) 0 rfl (bR (n)) _ (fun W hW => by obtain ⟨nx, rfl⟩ := hW; exact ra_s_0 nx) Try.underlying22 rfl (info_bR (n)) ?_; simp only [Act.put, List.setIfInBounds_toArray, List.set_cons_succ, List.set_cons_zero]) | (refine I.quiet_load rfl 22 _ rfl (w1.heap.size) 0 rfl (bR (k)) _ (fun W hW => by obtain ⟨nx, rfl⟩ := hW; exact ra_a_0 nx) Try.underlying22 rfl (info_bR (k)) ?_; simp only [Act.put, List.setIfInBounds_toArray, List.set_cons_succ, List.set_cons_zero]) | (refine I.quiet_load rfl 22 _ rfl (w3.heap.size) 0 rfl (bR (k)) _ (fun W hW => by obtain ⟨nx, rfl⟩ := hW; exact ra_b_0 nx) Try.underlying22 rfl (info_bR (k)) ?_; simp only [Act.put, List.setIfInBounds_toArray, List.set_cons_succ, List.set_cons_zero]) | go_big_quiet_step (first | (go_at_call 10; exact (C1 _).mono fun e w'' ⟨he, hb⟩ => ⟨he, hcl.out _ _ hb⟩) | (go_at_call 11; exact (C2 _).mono fun e w'' ⟨he, hb⟩ => ⟨he, hcl.out _ _ hb⟩) | (go_at_call 12; exact (P1 _).mono fun e w'' ⟨he, hb⟩ => ⟨he, hcl.out _ _ hb⟩) | (go_at_call 13; exact (P2 _).mono fun e w'' ⟨he, hb⟩ => ⟨he, hcl.out _ _ hb⟩)))
  refine wpQuiet_nil ?_
  intro nx
  have hb5 := (hf nx).out
  clear hf hcl
  generalize f nx = w5 at hb5 ⊢
  have s5 : Hid (Kn w5 [(w3.heap.size, (bR (k))), (w1.heap.size, (bR (k))), (w.heap.size + 1, (bR (m))), (w.heap.size, (bR (n)))]) := s4.out.up hb5
  have b5 : Hid (Below w.heap.size w w5) := b4.out.trans (hb5.mono b4.out.size)
  have z5 := b5.out.size
  clear hb5 s4 b4
  go_wp2_with fail
  go_ret
  exact ⟨rfl, b5.out⟩
theorem agreeTells_of (n m : Nat) (hn : n < 2 ^ 256) (hm : m < 2 ^ 256) (w : World) :
    Calls Try.prog 3 #[bV n, bV m] w fun e w' => e = .returned (.bool true) ∧ Below w.heap.size w w' := by
  have eb : ∀ {k : Nat}, k < 2 ^ 256 → ∀ w, (binOp .eql 22 (bV k) (bV k)).run Try.prog w = .ok (.bool true) w := fun h w => by
    rw [eqB h h, decide_eq_true rfl]
  exact agreeTells_walk n m _ _ _ _ (fun w => by rw [eqN, Nm.beq_self]) (eb (Ag.lt_256 (Ag.pub_lt n))) (eb (Ag.lt_256 (Ag.sh_lt n m))) (shared_fun n m hn hm) (rShared_fun n m hn hm) (clamp_fun n hn) (rClamp_fun n hn) (public_fun n hn) (rPublic_fun n hn) w
end Go.Proofs.Ytpnfopakkaoibaa
