/- The contracts of draw.New, At, Source.Place, Bytes and Skip. -/
import Derived.Test.YtfanndkhajokcaaDoorDFill
namespace Go.Proofs.YtfanndkhajokcaaDoor
open Go.RowKit
set_option linter.unusedSimpArgs false
theorem fill_one (pl : Nat → Option (Nat × Nat)) (X : Array Value) (i off : Nat) (k : IntKind) (z : Int) (y : Value) (a c : List Value) (rest : List (Nat × Value)) (hp : pl i = some (off, 1)) (hX : X.toList = a ++ ([y] ++ c)) (ha : a.length = off) :
    Instr.fill pl X ((i, Value.int k z) :: rest) = Instr.fill pl (a ++ ([Value.int k z] ++ c)).toArray rest := by
  have hs : X.size = a.length + (1 + c.length) := by
    rw [← Array.length_toList, hX]
    simp [Nat.add_comm]
  rw [Instr.fill, hp]
  have hc : (Value.int k z).cells = ([Value.int k z] : List Value).toArray := rfl
  simp only [hc, List.size_toArray]
  rw [if_neg (by simp; omega)]
  congr 1
  apply Array.ext'
  rw [foldl_zip]
  exact lay_foldl off [.int k z] 0 X a [y] c hX (by omega) rfl
theorem src_places : ((Tryd.prog.underlying 72).bind fun d => match d with | .struct fields => fields.toList.mapM (fun f => (Tryd.prog.info? f.type).map fun i => (f.offset, i.size)) | _ => none) = some [(0, 146), (146, 1)] := by kernel_rfl
theorem info_srcz : (Tryd.prog.info? 72).map (·.zero) = some (some (.agg ((zS ++ zS) ++ [Value.int .u64 0]).toArray)) := by kernel_rfl
theorem built_src (seed : List Nat) (p : Nat) : Tryd.prog.built 72 [(0, mV (fitS seed) []), (1, .int .u64 (p : Int))] = some (srcC seed p).toArray := by
  have hz : (zS ++ zS).length = 146 := by rw [List.length_append, zS_length]
  rw [built_of info_srcz src_places, mV, fill_step _ _ 0 0 (mC (fitS seed) []) [] (zS ++ zS) [.int .u64 0] _ (by rw [mC_length]; rfl) (by simp) rfl (by rw [hz, mC_length]),
    fill_one _ _ 1 146 .u64 (p : Int) (.int .u64 0) (mC (fitS seed) []) [] _ rfl (by simp) (mC_length _ _), Instr.fill]
  simp [srcC]
theorem wp_build2 {ops : Array Oper} {rest : List Oper} {o : Oper} {a : Act} {Q : Exit → Act → World → Prop} {w : World} (hgd : o.guard = none) (t : TypeId) (x y : Operand) (ho : o.op = .build t #[(0, x), (1, y)]) (u v : Value) (hx : a.eval x = u) (hy : a.eval y = v) (cs : Array Value) (hb : Tryd.prog.built t [(0, u), (1, v)] = some cs)
    (h : wpList Tryd.prog ops Q rest (a.put o.dst (.agg cs)) w) : wpList Tryd.prog ops Q (o :: rest) a w := by
  refine wpList_plain hgd fun K hK => ?_
  have e : (Instr.build t ((#[(0, x), (1, y)] : Array (Nat × Operand)).map fun x => (x.fst, a.eval x.snd))).run Tryd.prog w = .ok (.agg cs) w := run_build w t _ _ (by simpa [hx, hy] using hb)
  unfold Oper.wp
  simp only [execOp, ho, Sem.run_bind, e, Result.andThen_ok, Sem.run_pure]
  exact hK _ _ h
set_option maxRecDepth 20000 in
set_option maxHeartbeats 2000000 in
theorem sat_fun (seed : List Nat) (ls : ∀ x ∈ seed, x < 256) (zs : seed.length ≤ 500000000000000) (p : Nat) (hp : p < 18446744073709551616) (v : Value) (w : World) (hv : By w v seed) (hT : KTab w) :
    Calls Tryd.prog 23 #[v, .int .u64 (p : Int)] w fun e w' => (∃ k, e = .returned (ptr k) ∧ w.heap.size ≤ k ∧ Src w' k (· = k) seed p) ∧ Below w.heap.size w w' := by
  have N1 : Hid _ := mnew_fun seed ls (by omega) v w hv hT
  have B1 : Hid _ := built_src seed p
  have FI : Hid (∀ W k, Blk W k (srcC seed p) → Src W k (· = k) seed p) := fun W k h => ⟨ls, hp, fun _ => Iff.rfl, h⟩
  clear hv hT ls zs hp
  generalize srcC seed p = sc at *
  generalize mV (fitS seed) [] = m1 at *
  go_enter Tryd.func23, Tryd.ntmps23
  go_wp2_with fail
  refine Calls.mono N1.out ?_
  rintro e w1 ⟨rfl, hb1⟩
  have D1 : Hid (Below w.heap.size w w1) := hb1
  obtain ⟨x0, x1⟩ := al1 w1 sc.toArray 72
  have X0 : Hid (Blk _ _ sc) := x0
  have X1 : Hid (Below _ _ _) := x1
  clear hb1 x0 x1 N1
  go_wp2_with (refine wp_build2 rfl 72 (.tmp 6) (.tmp 7) rfl _ _ rfl rfl _ B1.out ?_)
  go_ret
  exact ⟨⟨_, rfl, D1.out.size, FI.out _ _ X0.out⟩, D1.out.trans (X1.out.mono D1.out.size)⟩
theorem snew_fun (seed : List Nat) (ls : ∀ x ∈ seed, x < 256) (zs : seed.length ≤ 500000000000000) (v : Value) (w : World) (hv : By w v seed) (hT : KTab w) :
    Calls Tryd.prog 8 #[v] w fun e w' => (∃ k F, e = .returned (ptr k) ∧ w.heap.size ≤ k ∧ (∀ g, F g → w.heap.size ≤ g) ∧ Src w' k F seed 0) ∧ Below w.heap.size w w' := by
  have A1 : Hid _ := sat_fun seed ls zs 0 (by decide) v w hv hT
  clear hv hT ls zs
  go_enter Tryd.func8, Tryd.ntmps8
  go_wp2_with fail
  refine Calls.mono A1.out ?_
  rintro e w1 ⟨⟨k, rfl, hk, hs⟩, hb1⟩
  have HS : Hid (Src w1 k (· = k) seed 0) := hs
  have D1 : Hid (Below w.heap.size w w1) := hb1
  clear hs hb1
  go_wp2_with fail
  go_ret
  exact ⟨⟨k, (· = k), rfl, hk, fun g e => by rw [e]; exact hk, HS.out⟩, D1.out⟩
theorem splace_fun {seed : List Nat} {F : Nat → Prop} {k p : Nat} (w : World) (hs : Src w k F seed p) : Calls Tryd.prog 11 #[ptr k] w fun e w' => e = .returned (.int .u64 (p : Int)) ∧ Below w.heap.size w w' := by
  obtain ⟨cP, zP⟩ := hs.at
  clear hs
  go_enter Tryd.func11, Tryd.ntmps11
  go_wp2_with fail
  go_ret
  exact ⟨rfl, Below.refl _ _⟩
theorem may_ok (n : Nat) (hn : n ≤ 4096) (w : World) : Calls Tryd.prog 33 #[.int .i64 (n : Int)] w fun e w' => e = .returned (.int .i64 0) ∧ w' = w := by
  have h1 : ¬ (n : Int) < 0 := by omega
  have h2 : ¬ (4096 : Int) < (n : Int) := by omega
  go_enter Tryd.func33, Tryd.ntmps33
  go_wp2_with fail
  go_ret
  exact ⟨rfl, rfl⟩
theorem may_neg (n : Int) (hn : n < 0) (w : World) : Calls Tryd.prog 33 #[.int .i64 n] w fun e w' => e = .returned (.int .i64 1) ∧ w' = w := by
  go_enter Tryd.func33, Tryd.ntmps33
  go_wp2_with fail
  go_ret
  exact ⟨rfl, rfl⟩
theorem may_large (n : Int) (hn : 4096 < n) (w : World) : Calls Tryd.prog 33 #[.int .i64 n] w fun e w' => e = .returned (.int .i64 2) ∧ w' = w := by
  have h1 : ¬ n < 0 := by omega
  go_enter Tryd.func33, Tryd.ntmps33
  go_wp2_with fail
  go_ret
  exact ⟨rfl, rfl⟩
theorem sskip_neg (k : Nat) (n : Int) (hn : n < 0) (w : World) : Calls Tryd.prog 12 #[ptr k, .int .i64 n] w fun e w' => e = .returned (.int .i64 1) ∧ Below w.heap.size w w' := by
  go_enter Tryd.func12, Tryd.ntmps12
  go_wp2_with fail
  refine Calls.mono (may_neg n hn w) ?_
  rintro e w1 ⟨rfl, hw1⟩
  have hw1 := hw1.symm
  subst hw1
  go_wp2_with fail
  go_ret
  exact ⟨rfl, Below.refl _ _⟩
theorem sskip_large (k : Nat) (n : Int) (hn : 4096 < n) (w : World) : Calls Tryd.prog 12 #[ptr k, .int .i64 n] w fun e w' => e = .returned (.int .i64 2) ∧ Below w.heap.size w w' := by
  go_enter Tryd.func12, Tryd.ntmps12
  go_wp2_with fail
  refine Calls.mono (may_large n hn w) ?_
  rintro e w1 ⟨rfl, hw1⟩
  have hw1 := hw1.symm
  subst hw1
  go_wp2_with fail
  go_ret
  exact ⟨rfl, Below.refl _ _⟩
theorem sbytes_neg (k : Nat) (n : Int) (hn : n < 0) (w : World) : Calls Tryd.prog 13 #[ptr k, .int .i64 n] w fun e w' => (∃ v', e = .returned (.tuple #[v', .int .i64 1]) ∧ By w' v' []) ∧ Below w.heap.size w w' := by
  go_enter Tryd.func13, Tryd.ntmps13
  go_wp2_with fail
  refine Calls.mono (may_neg n hn w) ?_
  rintro e w1 ⟨rfl, hw1⟩
  have hw1 := hw1.symm
  subst hw1
  go_wp2_with fail
  go_ret2
  exact ⟨⟨_, rfl, By.nil _⟩, Below.refl _ _⟩
theorem sbytes_large (k : Nat) (n : Int) (hn : 4096 < n) (w : World) : Calls Tryd.prog 13 #[ptr k, .int .i64 n] w fun e w' => (∃ v', e = .returned (.tuple #[v', .int .i64 2]) ∧ By w' v' []) ∧ Below w.heap.size w w' := by
  go_enter Tryd.func13, Tryd.ntmps13
  go_wp2_with fail
  refine Calls.mono (may_large n hn w) ?_
  rintro e w1 ⟨rfl, hw1⟩
  have hw1 := hw1.symm
  subst hw1
  go_wp2_with fail
  go_ret2
  exact ⟨⟨_, rfl, By.nil _⟩, Below.refl _ _⟩
theorem sskip_fun {seed : List Nat} {F : Nat → Prop} {k p : Nat} (n : Nat) (hn : n ≤ 4096) (w : World) (hs : Src w k F seed p) : Calls Tryd.prog 12 #[ptr k, .int .i64 (n : Int)] w fun e w' => e = .returned (.int .i64 0) ∧ Src w' k F seed ((p + n) % 18446744073709551616) ∧ Fr w k w' := by
  obtain ⟨cP, zP⟩ := hs.at
  have p64 := hs.small
  obtain ⟨PN, hPN⟩ : ∃ PN, PN = (p + n) % 18446744073709551616 := ⟨_, rfl⟩
  have wn : IntKind.u64.wrap ((p : Int) + (n : Int)) = (PN : Int) := by rw [IntKind.wrap_u64]; omega
  have wc : IntKind.u64.wrap (n : Int) = (n : Int) := by rw [IntKind.wrap_u64]; omega
  have S1 : Hid (Src (w.setCell ⟨k, 146, none⟩ (.int .u64 (PN : Int))) k F seed PN) := hs.move PN (by omega) _ rfl
  have F1 : Hid (Fr w k (w.setCell ⟨k, 146, none⟩ (.int .u64 (PN : Int)))) := by
    have h := (Below.refl w.heap.size w)
    have h0 := below_setCells (B := 0) (k := k) [.int .u64 (PN : Int)] 146 w (Below.refl 0 w) (Nat.zero_le _)
    exact ⟨h0.os, h0.tape, h0.output, h0.size, fun j _ hk => heap_setCells_off k j (fun e => hk (congrArg some e)) [.int .u64 (PN : Int)] 146 w⟩
  rw [← hPN]
  clear hs hPN p64
  go_enter Tryd.func12, Tryd.ntmps12
  go_wp2_with fail
  refine Calls.mono (may_ok n hn w) ?_
  rintro e w1 ⟨rfl, hw1⟩
  have hw1 := hw1.symm
  subst hw1
  go_wp2_with fail
  go_ret
  exact ⟨rfl, S1.out, F1.out⟩
theorem sbytes_fun {seed : List Nat} {F : Nat → Prop} {k p : Nat} (n : Nat) (hn : n ≤ 4096) (w : World) (hs : Src w k F seed p) (hT : KTab w) (k0 : 0 < k) : Calls Tryd.prog 13 #[ptr k, .int .i64 (n : Int)] w fun e w' => (∃ v', e = .returned (.tuple #[v', .int .i64 0]) ∧ Ob w' w.heap.size v' (drawS seed p n)) ∧ Src w' k F seed ((p + n) % 18446744073709551616) ∧ Fr w k w' := by
  have KL : Hid (k < w.heap.size) := hs.blk.lt
  have K0 : Hid (0 < k) := k0
  have FF : Hid (∀ w1, Below w.heap.size w w1 → RowB w1 w.heap.size 5 (List.replicate n 0) → Calls Tryd.prog 34 #[ptr k, .slice (some ⟨w.heap.size, 0, none⟩) n n] w1 fun e w' => e = .returned (.tuple #[]) ∧ Src w' k F seed ((p + n) % 18446744073709551616) ∧ RowB w' w.heap.size 5 (drawS seed p n) ∧ Fr2 w1 k w.heap.size w') := fun w1 hb hr =>
    fill_fun w.heap.size n 5 (List.replicate n 0) (by simp) hn w1 (hs.up hb hs.blk.lt) hr (Nat.ne_of_gt hs.blk.lt) k0 hT.pos (hT.up hb hT.pos)
  have DL : Hid (n ≤ 4096 ∧ (drawS seed p n).length = n) := ⟨hn, drawS_length _ _ _⟩
  clear hs hT k0
  generalize hd : drawS seed p n = dd at *
  clear hd
  go_enter Tryd.func13, Tryd.ntmps13
  go_wp2_with fail
  refine Calls.mono (may_ok n hn w) ?_
  rintro e w1 ⟨rfl, hw1⟩
  have hw1 := hw1.symm
  subst hw1
  go_wp2_with (refine wp_mkB rfl (.tmp 13) (.tmp 13) rfl w.heap.size n _ _ rfl rfl rfl rfl (by omega) (Nat.le_refl _) ?_)
  intro w1 ho1 hb1
  have R1 : Hid (RowB w1 w.heap.size 5 (List.replicate n 0)) := ho1.row (by simp)
  have D1 : Hid (Below w.heap.size w w1) := hb1
  clear ho1 hb1
  have CF : Hid _ := FF.out w1 D1.out R1.out
  clear FF
  go_wp2_with fail
  refine Calls.mono CF.out ?_
  rintro e w2 ⟨rfl, s2, r2, f2⟩
  have S2 : Hid _ := s2
  have R2 : Hid (RowB w2 w.heap.size 5 dd) := r2
  have F2 : Hid _ := f2.fr D1.out (Nat.le_refl _)
  clear s2 r2 f2 CF
  go_wp2_with fail
  go_ret2
  exact ⟨⟨_, rfl, R2.out.ob (Nat.le_refl _) DL.out.2 DL.out.1⟩, S2.out, F2.out⟩
/-- What a source must keep. -/
theorem srcIsC : SrcC Src where
  stay h e := h.stay (e _ ((h.foot _).2 rfl))
  lt h g hg := by rw [(h.foot g).1 hg]; exact h.blk.lt
  self h := (h.foot _).2 rfl
  small h := h.small
  new := snew_fun
  place := splace_fun
  bytes n hn w hs hT k0 := sbytes_fun n hn w hs hT k0
  bytesNeg n hn w _ := sbytes_neg _ n hn w
  bytesLarge n hn w _ := sbytes_large _ n hn w
  skip n hn w hs _ := sskip_fun n hn w hs
  skipNeg n hn w _ := sskip_neg _ n hn w
  skipLarge n hn w _ := sskip_large _ n hn w
end Go.Proofs.YtfanndkhajokcaaDoor
