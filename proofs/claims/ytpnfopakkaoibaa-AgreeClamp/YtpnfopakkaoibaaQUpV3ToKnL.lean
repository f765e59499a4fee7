/- Texts that were joined: UpV3, KnO, KnF, KnL. -/
import Derived.Test.YtpnfopakkaoibaaQUpV
import Derived.Test.YtpnfopakkaoibaaQNumToKn
import Derived.Test.YtpnfopakkaoibaaQFeMathToIB
/- A drawn region that makes three variables and stores into them, each as soon as it may. Over any program. -/
namespace Go.Proofs.Ytpnfopakkaoibaa
open Go.RowKit
section
variable {P : Program}
theorem Kn.three {W w1 : World} {L : List (Nat × List Value)} {k1 k2 k3 : Nat} {v1 v2 v3 : List Value} {t1 t2 t3 : TypeId} (h : Kn W L) (hb : Below W.heap.size W w1) (g1 : W.heap.size ≤ k1) (g2 : W.heap.size ≤ k2) (g3 : W.heap.size ≤ k3) (hn : k1 ≠ k2 ∧ k1 ≠ k3 ∧ k2 ≠ k3) (c1 : w1.heap[k1]? = some (.cells v1.toArray t1)) (c2 : w1.heap[k2]? = some (.cells v2.toArray t2)) (c3 : w1.heap[k3]? = some (.cells v3.toArray t3)) : Kn w1 ((k1, v1) :: (k2, v2) :: (k3, v3) :: L) := by
  have h1 := h.two hb g2 g3 hn.2.2 c2 c3
  refine ⟨?_, fun p hp => ?_⟩
  · rw [List.map_cons, List.nodup_cons]
    refine ⟨fun hm => ?_, h1.nd⟩
    rcases List.mem_cons.1 hm with e | hm
    · exact hn.1 e
    · rcases List.mem_cons.1 hm with e | hm
      · exact hn.2.1 e
      · obtain ⟨p, hp, e⟩ := List.mem_map.1 hm
        have := (h.all p hp).lt
        omega
  · rcases List.mem_cons.1 hp with rfl | hp
    · exact KBlk.of c1
    · exact h1.all p hp
end
end Go.Proofs.Ytpnfopakkaoibaa

/- Rows that are never opened, among the known blocks: thirty-two bytes, numbers modulo P, fractions. -/
namespace Go.Proofs.Ytpnfopakkaoibaa
open Go.RowKit
set_option linter.unusedSimpArgs false
/-- The bytes of a number, the least first. -/
def bR (n : Nat) : List Value := (List.range 32).map fun i => .int .u8 ((n / 256 ^ i % 256 : Nat) : Int)
abbrev bV (n : Nat) : Value := .agg (bR n).toArray
theorem bR_length (n : Nat) : (bR n).length = 32 := by simp [bR]
theorem bR_one (n : Nat) : ∀ v ∈ bR n, v.oneCell' = true := fun v hv => by
  obtain ⟨x, _, rfl⟩ := List.mem_map.1 hv
  rfl
def bZ : List Value := List.replicate 32 (.int .u8 0)
theorem info_b32o : (Try.prog.info? 22).map (·.size) = some 32 := by kernel_rfl
theorem info_bR (n : Nat) : (Try.prog.info? 22).map (·.size) = some (bR n).length := by rw [bR_length]; exact info_b32o
theorem zero_b32 (w : World) : (zeroValue 22).run Try.prog w = .ok (.agg bZ.toArray) w := I.zero_of (by kernel_rfl) w
theorem bZ_length : bZ.length = 32 := by simp [bZ]
theorem Kn.rng {w : World} {L : List (Nat × List Value)} (h : Kn w L) (i : Nat) {k : Nat} {vs : List Value} (hp : L[i]? = some (k, vs)) : w.rangeAt k 0 vs := fun j v hv => by
  rw [Nat.zero_add]
  exact (h.all _ (List.mem_of_getElem? hp)).cell j v hv
theorem range_app {w : World} {k o : Nat} {a b : List Value} (h : w.rangeAt k o (a ++ b)) : w.rangeAt k o a ∧ w.rangeAt k (o + a.length) b := by
  refine ⟨fun j v hv => h j v ?_, fun j v hv => ?_⟩
  · rw [List.getElem?_append_left (List.getElem?_eq_some_iff.1 hv).1]
    exact hv
  · have := h (a.length + j) v (by rw [List.getElem?_append_right (by omega), show a.length + j - a.length = j by omega]; exact hv)
    rwa [← Nat.add_assoc] at this
theorem Kn.there {w : World} {L : List (Nat × List Value)} (h : Kn w L) (i : Nat) {k : Nat} {vs us : List Value} (hp : L[i]? = some (k, vs)) (hl : us.length = vs.length) : w.there k 0 us.length := fun j hj => by
  have hb := h.all _ (List.mem_of_getElem? hp)
  rw [Nat.zero_add]
  refine ⟨?_, hb.fz _⟩
  have hj' : j < vs.length := by omega
  rw [hb.cell j vs[j] (List.getElem?_eq_getElem hj')]
  rfl
theorem Kn.put {w : World} {L : List (Nat × List Value)} {k : Nat} {vs us : List Value} (h : Kn w ((k, vs) :: L)) (hl : us.length = vs.length) : Kn (w.setCells k 0 us) ((k, us) :: L) := by
  have ht := h.there 0 rfl hl
  refine ⟨h.nd, fun p hp => ?_⟩
  rcases List.mem_cons.1 hp with rfl | hp
  · refine ⟨by rw [I.size_setCells]; exact (h.all _ List.mem_cons_self).lt, fun j v hv => ?_, fun j => by rw [World.frozen?_setCells]; exact (h.all _ List.mem_cons_self).fz j⟩
    have := World.rangeAt_setCells_same w k 0 us ht j v hv
    rwa [Nat.zero_add] at this
  · have hb := h.all p (List.mem_cons_of_mem _ hp)
    have hk : p.1 ≠ k := fun e => by
      have := (List.nodup_cons.1 h.nd).1
      exact this (List.mem_map.2 ⟨p, hp, e⟩)
    exact ⟨by rw [I.size_setCells]; exact hb.lt, fun j v hv => by rw [World.cell?_setCells_out k us 0 w ⟨p.1, j, none⟩ (fun e _ => absurd e hk)]; exact hb.cell j v hv, fun j => by rw [World.frozen?_setCells]; exact hb.fz j⟩
/-- A row read whole, behind a guard too. -/
theorem wp_ldW {P : Program} {ops : Array Oper} {rest : List Oper} {o : Oper} {a : Act} {w : World} {Q : Exit → Act → World → Prop} (hgd : Region.wanted o (yielded ops a.tmps) = true) (ty : TypeId) (x : Operand) (ho : o.op = .load ty x)
    (b f : Nat) (hx : a.eval x = .pointer (some ⟨b, f, none⟩)) (cs : List Value) (d : TypeDesc) (hc : w.rangeAt b f cs) (hu : P.underlying ty = some d) (hd : d.isRow = true) (hi : (P.info? ty).map (·.size) = some cs.length)
    (h : wpList P ops Q rest (a.put o.dst (.agg cs.toArray)) w) : wpList P ops Q (o :: rest) a w :=
  wpList_step fun K hK => by simp only [hgd, if_true]; exact wp_load_mid ty x ho b f hx cs d hc hu hd hi (hK _ _ h)
/-- A variable of a drawn region is stored into whole. -/
theorem st_obj {ev : Operand → Value} {o : Oper} {x y : Operand} {T : TypeId} {k B : Nat} {w : World} {zs cs : List Value} (h : w.heap[k]? = some (.cells zs.toArray T)) (ho : o.op = .store T x y) (hx : ev x = .pointer (some ⟨k, 0, none⟩)) (hy : ev y = .agg cs.toArray) (hl : cs.length = zs.length)
    (hi : (Try.prog.info? T).map (·.size) = some cs.length) (h1 : ∀ v ∈ cs, v.oneCell' = true) :
    ∃ w'', (execOp ev o).run Try.prog w = .ok .skip w'' ∧ w''.heap[k]? = some (.cells cs.toArray T) ∧ (B ≤ k → Below B w w'') ∧ ∀ b, b ≠ k → w''.heap[b]? = w.heap[b]? := by
  have hb := KBlk.of h
  have ht : w.there k 0 cs.toArray.size := fun j hj => by
    rw [Nat.zero_add]
    refine ⟨?_, hb.fz _⟩
    have hj' : j < zs.length := by simpa [hl] using hj
    rw [hb.cell j zs[j] (List.getElem?_eq_getElem hj')]
    rfl
  refine ⟨w.setCells k 0 cs, ?_, ?_, fun hk => I.below_setCells _ _ _ (Below.refl _ _) hk, fun b hb' => I.heap_setCells_off k b hb' cs 0 w⟩
  · have hr := run_storeVar_mid (P := Try.prog) w k 0 T cs.toArray ht (by rw [List.size_toArray]; exact hi) (all_oneCell_toArray h1)
    unfold execOp
    simp only [ho, hx, hy, Instr.storeAt, Instr.sureAddr, Sem.run_bind, Sem.run_pure, Result.andThen_ok, hr]
  · have h2 : w.heap[k]? = some (.cells ([] ++ (zs ++ [])).toArray T) := by simpa using h
    have := I.heap_setCells_at k T (0, 0) cs [] zs [] w h2 hl.symm
    simpa using this
end Go.Proofs.Ytpnfopakkaoibaa

/- Fractions of package curve among the known blocks: rows of sixteen words that are never opened. -/
namespace Go.Proofs.Ytpnfopakkaoibaa
open Go.RowKit
set_option linter.unusedSimpArgs false
/-- x, y, x*y, z. -/
def qR (x y v z : Nm) : List Value := c4 x ++ (c4 y ++ (c4 v ++ c4 z))
abbrev qV (x y v z : Nm) : Value := .agg (qR x y v z).toArray
def qZ : List Value := List.replicate 16 (.int .u64 0)
theorem qR_length (x y v z : Nm) : (qR x y v z).length = 16 := rfl
theorem qZ_length : qZ.length = 16 := by simp [qZ]
theorem zz4_length : zz4.length = 4 := rfl
theorem c4_length (x : Nm) : (c4 x).length = 4 := rfl
theorem c4_one (x : Nm) : ∀ v ∈ c4 x, v.oneCell' = true := fun v hv => by
  simp only [c4, List.mem_cons, List.not_mem_nil, or_false] at hv
  rcases hv with rfl | rfl | rfl | rfl <;> rfl
theorem qR_one (x y v z : Nm) : ∀ u ∈ qR x y v z, u.oneCell' = true := fun u hu => by
  unfold qR at hu
  rcases List.mem_append.1 hu with h | h
  · exact c4_one _ u h
  · rcases List.mem_append.1 h with h | h
    · exact c4_one _ u h
    · rcases List.mem_append.1 h with h | h
      · exact c4_one _ u h
      · exact c4_one _ u h
theorem info_fra : (Try.prog.info? 89).map (·.size) = some 16 := by kernel_rfl
theorem info_qR (x y v z : Nm) : (Try.prog.info? 89).map (·.size) = some (qR x y v z).length := by rw [qR_length]; exact info_fra
theorem info_num4 : (Try.prog.info? 28).map (·.size) = some 4 := by kernel_rfl
theorem info_c4 (x : Nm) : (Try.prog.info? 28).map (·.size) = some (c4 x).length := info_num4
theorem zero_fra (w : World) : (zeroValue 89).run Try.prog w = .ok (.agg qZ.toArray) w := I.zero_of (by kernel_rfl) w
theorem Kn.qng0 {w : World} {L : List (Nat × List Value)} (h : Kn w L) (i : Nat) {k : Nat} {x y v z : Nm} (hp : L[i]? = some (k, qR x y v z)) : w.rangeAt k 0 (c4 x) := (range_app (h.rng i hp)).1
theorem Kn.qng1 {w : World} {L : List (Nat × List Value)} (h : Kn w L) (i : Nat) {k : Nat} {x y v z : Nm} (hp : L[i]? = some (k, qR x y v z)) : w.rangeAt k 4 (c4 y) := (range_app (range_app (h.rng i hp)).2).1
theorem Kn.qng2 {w : World} {L : List (Nat × List Value)} (h : Kn w L) (i : Nat) {k : Nat} {x y v z : Nm} (hp : L[i]? = some (k, qR x y v z)) : w.rangeAt k 8 (c4 v) := (range_app (range_app (range_app (h.rng i hp)).2).2).1
theorem Kn.qng3 {w : World} {L : List (Nat × List Value)} (h : Kn w L) (i : Nat) {k : Nat} {x y v z : Nm} (hp : L[i]? = some (k, qR x y v z)) : w.rangeAt k 12 (c4 z) := (range_app (range_app (range_app (h.rng i hp)).2).2).2
theorem fra_built (x y v z : Nm) : Try.prog.built 89 [(0, N x), (1, N y), (2, N v), (3, N z)] = some (qR x y v z).toArray := by kernel_rfl
theorem run_buildF {T : TypeId} {x y v z : Operand} {a : Act} {X Y V U : Value} {cs : List Value} (hx : a.eval x = X) (hy : a.eval y = Y) (hv : a.eval v = V) (hz : a.eval z = U) (hb : Try.prog.built T [(0, X), (1, Y), (2, V), (3, U)] = some cs.toArray) (w : World) : (Instr.build T ((#[(0, x), (1, y), (2, v), (3, z)] : Array (Nat × Operand)).map fun x => (x.fst, a.eval x.snd))).run Try.prog w = .ok (.agg cs.toArray) w :=
  run_build w T _ _ (by simpa [hx, hy, hv, hz] using hb)
theorem quiet_buildF {ops : Array Oper} {C : World → Prop} {Q : Act → Prop} {o : Oper} {rest : List Oper} {a : Act} (hw : Region.wanted o (yielded ops a.tmps) = true) (T : TypeId) (x y v z : Operand) (ho : o.op = .build T #[(0, x), (1, y), (2, v), (3, z)]) (X Y V U : Value) (cs : List Value) (hx : a.eval x = X) (hy : a.eval y = Y) (hv : a.eval v = V) (hz : a.eval z = U) (hb : Try.prog.built T [(0, X), (1, Y), (2, V), (3, U)] = some cs.toArray)
    (h : wpQuiet Try.prog ops C Q rest (a.put o.dst (.agg cs.toArray))) : wpQuiet Try.prog ops C Q (o :: rest) a := by
  refine BigFrame.wpQuiet_want hw fun K hK => ⟨.agg cs.toArray, fun w _ => ?_, hK _ h⟩
  unfold Oper.quietAt
  have e1 := run_buildF hx hy hv hz hb w
  have e : (execOp a.eval o).run Try.prog w = .ok (.value (.agg cs.toArray)) w := by
    simp only [execOp, ho, Sem.run_bind, e1, Result.andThen_ok, Sem.run_pure]
  rw [e]
  exact ⟨rfl, rfl⟩
end Go.Proofs.Ytpnfopakkaoibaa

/- Pairs of package ladder among the known blocks: rows of eight words that are never opened. -/
namespace Go.Proofs.Ytpnfopakkaoibaa
open Go.RowKit
set_option linter.unusedSimpArgs false
/-- x, z. -/
def lR (x y : Nm) : List Value := c4 x ++ c4 y
abbrev lV (x y : Nm) : Value := .agg (lR x y).toArray
def lZ : List Value := List.replicate 8 (.int .u64 0)
theorem lR_length (x y : Nm) : (lR x y).length = 8 := rfl
theorem lZ_length : lZ.length = 8 := by simp [lZ]
theorem lR_one (x y : Nm) : ∀ u ∈ lR x y, u.oneCell' = true := fun u hu => by
  unfold lR at hu
  rcases List.mem_append.1 hu with h | h
  · exact c4_one _ u h
  · exact c4_one _ u h
theorem info_lpr : (Try.prog.info? 62).map (·.size) = some 8 := by kernel_rfl
theorem info_lR (x y : Nm) : (Try.prog.info? 62).map (·.size) = some (lR x y).length := by rw [lR_length]; exact info_lpr
theorem zero_lpr (w : World) : (zeroValue 62).run Try.prog w = .ok (.agg lZ.toArray) w := I.zero_of (by kernel_rfl) w
theorem Kn.lng0 {w : World} {L : List (Nat × List Value)} (h : Kn w L) (i : Nat) {k : Nat} {x y : Nm} (hp : L[i]? = some (k, lR x y)) : w.rangeAt k 0 (c4 x) := (range_app (h.rng i hp)).1
theorem Kn.lng1 {w : World} {L : List (Nat × List Value)} (h : Kn w L) (i : Nat) {k : Nat} {x y : Nm} (hp : L[i]? = some (k, lR x y)) : w.rangeAt k 4 (c4 y) := (range_app (h.rng i hp)).2
theorem lpr_built (x y : Nm) : Try.prog.built 62 [(0, N x), (1, N y)] = some (lR x y).toArray := by kernel_rfl
theorem lpr_built1 (x : Nm) : Try.prog.built 62 [(0, N x)] = some (lR x ⟨0, 0, 0, 0⟩).toArray := by kernel_rfl
theorem quiet_buildL {ops : Array Oper} {C : World → Prop} {Q : Act → Prop} {o : Oper} {rest : List Oper} {a : Act} (hw : Region.wanted o (yielded ops a.tmps) = true) (T : TypeId) (x y : Operand) (ho : o.op = .build T #[(0, x), (1, y)]) (X Y : Value) (cs : List Value) (hx : a.eval x = X) (hy : a.eval y = Y) (hb : Try.prog.built T [(0, X), (1, Y)] = some cs.toArray)
    (h : wpQuiet Try.prog ops C Q rest (a.put o.dst (.agg cs.toArray))) : wpQuiet Try.prog ops C Q (o :: rest) a := by
  refine BigFrame.wpQuiet_want hw fun K hK => ⟨.agg cs.toArray, fun w _ => ?_, hK _ h⟩
  unfold Oper.quietAt
  have e1 : (Instr.build T ((#[(0, x), (1, y)] : Array (Nat × Operand)).map fun x => (x.fst, a.eval x.snd))).run Try.prog w = .ok (.agg cs.toArray) w := run_build w T _ _ (by simpa [hx, hy] using hb)
  have e : (execOp a.eval o).run Try.prog w = .ok (.value (.agg cs.toArray)) w := by
    simp only [execOp, ho, Sem.run_bind, e1, Result.andThen_ok, Sem.run_pure]
  rw [e]
  exact ⟨rfl, rfl⟩
theorem quiet_buildL1 {ops : Array Oper} {C : World → Prop} {Q : Act → Prop} {o : Oper} {rest : List Oper} {a : Act} (hw : Region.wanted o (yielded ops a.tmps) = true) (T : TypeId) (x : Operand) (ho : o.op = .build T #[(0, x)]) (X : Value) (cs : List Value) (hx : a.eval x = X) (hb : Try.prog.built T [(0, X)] = some cs.toArray)
    (h : wpQuiet Try.prog ops C Q rest (a.put o.dst (.agg cs.toArray))) : wpQuiet Try.prog ops C Q (o :: rest) a := by
  refine BigFrame.wpQuiet_want hw fun K hK => ⟨.agg cs.toArray, fun w _ => ?_, hK _ h⟩
  unfold Oper.quietAt
  have e1 : (Instr.build T ((#[(0, x)] : Array (Nat × Operand)).map fun x => (x.fst, a.eval x.snd))).run Try.prog w = .ok (.agg cs.toArray) w := run_build w T _ _ (by simpa [hx] using hb)
  have e : (execOp a.eval o).run Try.prog w = .ok (.value (.agg cs.toArray)) w := by
    simp only [execOp, ho, Sem.run_bind, e1, Result.andThen_ok, Sem.run_pure]
  rw [e]
  exact ⟨rfl, rfl⟩
end Go.Proofs.Ytpnfopakkaoibaa
