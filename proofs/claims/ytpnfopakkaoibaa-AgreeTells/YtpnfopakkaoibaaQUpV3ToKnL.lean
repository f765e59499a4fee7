/- Texts that were joined: UpV3, KnO, KnF, KnL. -/
import Derived.Test.YtpnfopakkaoibaaQUpV
import Derived.Test.YtpnfopakkaoibaaQNumToKn
import Derived.Test.YtpnfopakkaoibaaQFeMathToIB
/- A drawn region that makes three variables and stores into them, each as soon as it may. Over any program. -/
namespace Go.Proofs.Ytpnfopakkaoibaa
open Go.RowKit
section
variable {P : Program}
theorem D_three {m k1 k2 k3 : Nat} {D : List (Nat × Nat)} (hn : (D.map (·.1)).Nodup) (hr : ∀ p ∈ D, m ≤ p.1 ∧ p.1 < m + 3) (h1 : (m, k1) ∈ D) (h2 : (m + 1, k2) ∈ D) (h3 : (m + 2, k3) ∈ D) :
    D = [(m, k1), (m + 1, k2), (m + 2, k3)] ∨ D = [(m, k1), (m + 2, k3), (m + 1, k2)] ∨ D = [(m + 1, k2), (m, k1), (m + 2, k3)] ∨ D = [(m + 1, k2), (m + 2, k3), (m, k1)] ∨ D = [(m + 2, k3), (m, k1), (m + 1, k2)] ∨ D = [(m + 2, k3), (m + 1, k2), (m, k1)] := by
  match D, hn, hr, h1, h2, h3 with
  | [p], _, _, h1, h2, _ => simp at h1 h2; rw [← h1] at h2; simp at h2
  | [(p1, p2), (q1, q2)], _, _, h1, h2, h3 =>
    exfalso
    simp only [List.mem_cons, List.not_mem_nil, or_false, Prod.mk.injEq] at h1 h2 h3
    omega
  | [(p1, p2), (q1, q2), (r1, r2)], _, _, h1, h2, h3 =>
    simp only [List.mem_cons, List.not_mem_nil, or_false, Prod.mk.injEq] at h1 h2 h3
    rcases h1 with ⟨a1, a2⟩ | ⟨a1, a2⟩ | ⟨a1, a2⟩ <;> rcases h2 with ⟨b1, b2⟩ | ⟨b1, b2⟩ | ⟨b1, b2⟩ <;> first | (exfalso; omega) | skip
    all_goals rcases h3 with ⟨c1, c2⟩ | ⟨c1, c2⟩ | ⟨c1, c2⟩ <;> first | (exfalso; omega) | skip
    all_goals subst a1 a2 b1 b2 c1 c2
    all_goals simp
  | p :: q :: r :: s :: D, hn, hr, _, _, _ =>
    exfalso
    have a1 := hr p (by simp); have a2 := hr q (by simp); have a3 := hr r (by simp); have a4 := hr s (by simp)
    simp at hn
    omega
theorem put_swap {a : Act} {s s' : Tmp} {u v : Value} (h : s ≠ s') : (a.put (some s) u).put (some s') v = (a.put (some s') v).put (some s) u := (Act.put_comm _ _ _ (fun d hd => by cases hd; intro h'; cases h'; exact h rfl)).symm
/-- Three variables are made and stored into. -/
theorem wp_region_vars3 {id : Nat} {Q : Exit → Act → World → Prop} {a : Act} {w : World} (m : Nat) {l : List Oper} {o1 o2 o3 q1 q2 q3 : Oper} {s1 s2 s3 : Tmp} (O1 O2 O3 F1 F2 F3 : Obj) (hm : P.follows .mixedOrders = true) (hB : Region.lexB .any (l.take m).toArray = true) (hS : varsB .any l.toArray m 3 = true) (hN : Region.noSelect l.toArray = true)
    (h1 : l[m]? = some o1) (d1 : o1.dst = some s1) (h2 : l[m + 1]? = some o2) (d2 : o2.dst = some s2) (h3 : l[m + 2]? = some o3) (d3 : o3.dst = some s3) (hne : s1 ≠ s2 ∧ s1 ≠ s3 ∧ s2 ≠ s3) (hq1 : l[m + 3]? = some q1) (hq2 : l[m + 4]? = some q2) (hq3 : l[m + 5]? = some q3)
    (r1 : ∀ (a : Act) (w : World), (execOp a.eval o1).run P w = .ok (.value (ptrV w.heap.size)) (w.alloc O1)) (r2 : ∀ (a : Act) (w : World), (execOp a.eval o2).run P w = .ok (.value (ptrV w.heap.size)) (w.alloc O2)) (r3 : ∀ (a : Act) (w : World), (execOp a.eval o3).run P w = .ok (.value (ptrV w.heap.size)) (w.alloc O3))
    (h : ∃ aF, (∀ (U : Type) (_ : Nonempty U) (f : U → World), (∀ n, Hid (Below w.heap.size w (f n))) → Hid (∀ n w', Below (f n).heap.size (f n) w' → ∃ m, w' = f m) →
      wpQuiet P (l.take m).toArray (fun w' => ∃ n : U, w' = f n) (fun a' => a' = aF) (l.take m) a) ∧
    (∀ i j k w', Hid (w'.heap[i]? = some O1) → ∃ w'', (execOp (((aF.put (some s1) (.pointer (some ⟨i, 0, none⟩))).put (some s2) (.pointer (some ⟨j, 0, none⟩))).put (some s3) (.pointer (some ⟨k, 0, none⟩))).eval q1).run P w' = .ok .skip w'' ∧ w''.heap[i]? = some F1 ∧ (w.heap.size ≤ i → Below w.heap.size w' w'') ∧ ∀ b, b ≠ i → w''.heap[b]? = w'.heap[b]?) ∧
    (∀ i j k w', Hid (w'.heap[j]? = some O2) → ∃ w'', (execOp (((aF.put (some s1) (.pointer (some ⟨i, 0, none⟩))).put (some s2) (.pointer (some ⟨j, 0, none⟩))).put (some s3) (.pointer (some ⟨k, 0, none⟩))).eval q2).run P w' = .ok .skip w'' ∧ w''.heap[j]? = some F2 ∧ (w.heap.size ≤ j → Below w.heap.size w' w'') ∧ ∀ b, b ≠ j → w''.heap[b]? = w'.heap[b]?) ∧
    (∀ i j k w', Hid (w'.heap[k]? = some O3) → ∃ w'', (execOp (((aF.put (some s1) (.pointer (some ⟨i, 0, none⟩))).put (some s2) (.pointer (some ⟨j, 0, none⟩))).put (some s3) (.pointer (some ⟨k, 0, none⟩))).eval q3).run P w' = .ok .skip w'' ∧ w''.heap[k]? = some F3 ∧ (w.heap.size ≤ k → Below w.heap.size w' w'') ∧ ∀ b, b ≠ k → w''.heap[b]? = w'.heap[b]?) ∧
    (∀ i j k w', Hid (Below w.heap.size w w') → w.heap.size ≤ i → w.heap.size ≤ j → w.heap.size ≤ k → Hid (i ≠ j ∧ i ≠ k ∧ j ≠ k) → Hid (w'.heap[i]? = some F1) → Hid (w'.heap[j]? = some F2) → Hid (w'.heap[k]? = some F3) →
      Q .normal (((aF.put (some s1) (.pointer (some ⟨i, 0, none⟩))).put (some s2) (.pointer (some ⟨j, 0, none⟩))).put (some s3) (.pointer (some ⟨k, 0, none⟩))) w')) :
    (Code.region id l.toArray true).wp P Q a w := by
  obtain ⟨aF, g1, t1, t2, t3, g2⟩ := h
  have e1 : slot l.toArray m = s1 := by simp [slot, h1, d1]
  have e2 : slot l.toArray (m + 1) = s2 := by simp [slot, h2, d2]
  have e3 : slot l.toArray (m + 2) = s3 := by simp [slot, h3, d3]
  have puts : ∀ D : List (Nat × Nat), (D.map (·.1)).Nodup → (∀ p ∈ D, m ≤ p.1 ∧ p.1 < m + 3) → ∀ i j k, (m, i) ∈ D → (m + 1, j) ∈ D → (m + 2, k) ∈ D → putsD (slot l.toArray) D aF = ((aF.put (some s1) (.pointer (some ⟨i, 0, none⟩))).put (some s2) (.pointer (some ⟨j, 0, none⟩))).put (some s3) (.pointer (some ⟨k, 0, none⟩)) := by
    intro D hn hr i j k hi hj hk
    have s12 : ∀ b : Act, (b.put (some s1) (.pointer (some ⟨i, 0, none⟩))).put (some s2) (.pointer (some ⟨j, 0, none⟩)) = (b.put (some s2) (.pointer (some ⟨j, 0, none⟩))).put (some s1) (.pointer (some ⟨i, 0, none⟩)) := fun b => put_swap hne.1
    have s13 : ∀ b : Act, (b.put (some s1) (.pointer (some ⟨i, 0, none⟩))).put (some s3) (.pointer (some ⟨k, 0, none⟩)) = (b.put (some s3) (.pointer (some ⟨k, 0, none⟩))).put (some s1) (.pointer (some ⟨i, 0, none⟩)) := fun b => put_swap hne.2.1
    have s23 : ∀ b : Act, (b.put (some s2) (.pointer (some ⟨j, 0, none⟩))).put (some s3) (.pointer (some ⟨k, 0, none⟩)) = (b.put (some s3) (.pointer (some ⟨k, 0, none⟩))).put (some s2) (.pointer (some ⟨j, 0, none⟩)) := fun b => put_swap hne.2.2
    rcases D_three hn hr hi hj hk with rfl | rfl | rfl | rfl | rfl | rfl <;> simp only [putsD, List.foldr_cons, List.foldr_nil, e1, e2, e3, ptrV]
    · rw [← s12, ← s13, ← s23]
    · rw [← s13, ← s12]
    · rw [← s13, ← s23]
    · rw [← s23]
    · rw [← s12]
  refine wp_region_vars m 3 (fun i => if i = m then O1 else if i = m + 1 then O2 else O3) (fun i => if i = m then F1 else if i = m + 1 then F2 else F3) hm hB hS hN (fun i oi hi hi2 hoi => ?_) g1 (fun i oi hi hi2 hoi D k w' hw' hn hr hc hk hk0 hcell => ?_) (fun D w' hw' hn hr hc => ?_)
  · have : i = m ∨ i = m + 1 ∨ i = m + 2 := by omega
    rcases this with rfl | rfl | rfl
    · rw [h1] at hoi
      cases hoi
      simpa using r1
    · rw [h2] at hoi
      cases hoi
      simpa using r2
    · rw [h3] at hoi
      cases hoi
      simpa using r3
  · obtain ⟨x1, y1⟩ := hc m (by omega) (by omega)
    obtain ⟨x2, y2⟩ := hc (m + 1) (by omega) (by omega)
    obtain ⟨x3, y3⟩ := hc (m + 2) (by omega) (by omega)
    have : i = m ∨ i = m + 1 ∨ i = m + 2 := by omega
    rcases this with rfl | rfl | rfl
    · rw [hq1] at hoi
      cases hoi
      rw [puts D hn hr k x2 x3 hk y2 y3]
      obtain ⟨w'', a1, a2, a3, a4⟩ := t1 k x2 x3 w' (show w'.heap[k]? = some O1 by simpa using hcell)
      exact ⟨w'', a1, by simpa using a2, a3 hk0, a4⟩
    · rw [show m + 1 + 3 = m + 4 from rfl, hq2] at hoi
      cases hoi
      rw [puts D hn hr x1 k x3 y1 hk y3]
      obtain ⟨w'', a1, a2, a3, a4⟩ := t2 x1 k x3 w' (show w'.heap[k]? = some O2 by simpa using hcell)
      exact ⟨w'', a1, by simpa using a2, a3 hk0, a4⟩
    · rw [show m + 2 + 3 = m + 5 from rfl, hq3] at hoi
      cases hoi
      rw [puts D hn hr x1 x2 k y1 y2 hk]
      obtain ⟨w'', a1, a2, a3, a4⟩ := t3 x1 x2 k w' (show w'.heap[k]? = some O3 by simpa using hcell)
      exact ⟨w'', a1, by simpa using a2, a3 hk0, a4⟩
  · obtain ⟨x1, y1⟩ := hc m (by omega) (by omega)
    obtain ⟨x2, y2⟩ := hc (m + 1) (by omega) (by omega)
    obtain ⟨x3, y3⟩ := hc (m + 2) (by omega) (by omega)
    have c1 := hw'.2.1 (m, x1) y1
    have c2 := hw'.2.1 (m + 1, x2) y2
    have c3 := hw'.2.1 (m + 2, x3) y3
    simp at c1 c2 c3
    have n12 : x1 ≠ x2 := fun e => by
      have := nodup_map_inj hw'.2.2 y1 y2 e
      simp at this
    have n13 : x1 ≠ x3 := fun e => by
      have := nodup_map_inj hw'.2.2 y1 y3 e
      simp at this
    have n23 : x2 ≠ x3 := fun e => by
      have := nodup_map_inj hw'.2.2 y2 y3 e
      simp at this
    rw [puts D hn hr x1 x2 x3 y1 y2 y3]
    exact g2 x1 x2 x3 w' hw'.1 c1.1 c2.1 c3.1 ⟨n12, n13, n23⟩ c1.2 c2.2 c3.2
theorem Kn.three {W w1 : World} {L : List (Nat × List Value)} {k1 k2 k3 : Nat} {v1 v2 v3 : List Value} {t1 t2 t3 : TypeId} (h : Kn W L) (hb : Below W.heap.size W w1) (g1 : W.heap.size ≤ k1) (g2 : W.heap.size ≤ k2) (g3 : W.heap.size ≤ k3) (hn : k1 ≠ k2 ∧ k1 ≠ k3 ∧ k2 ≠ k3) (c1 : w1.heap[k1]? = some (.cells v1.toArray t1)) (c2 : w1.heap[k2]? = some (.cells v2.toArray t2)) (c3 : w1.heap[k3]? = some (.cells v3.toArray t3)) : Kn w1 ((k1, v1) :: (k2, v2) :: (k3, v3) :: L) := by
  have h1 := h.two hb g2 g3 hn.2.2 c2 c3
  refine ⟨?_, fun p hp => ?_⟩
  · rw [List.map_cons, List.nodup_cons]
    refine ⟨fun hm => ?_, h1.nd⟩
    rcases List.mem_cons.1 hm with e | hm
    · exact hn.1 e
    · rcases List.mem_cons.1 hm with e | hm
      · exact hn.2.1 e
      · obtain ⟨p, hp, e⟩ := List.mem_map.1 hm
        have := (h.all p hp).lt
        omega
  · rcases List.mem_cons.1 hp with rfl | hp
    · exact KBlk.of c1
    · exact h1.all p hp
end
end Go.Proofs.Ytpnfopakkaoibaa

/- Rows that are never opened, among the known blocks: thirty-two bytes, numbers modulo P, fractions. -/
namespace Go.Proofs.Ytpnfopakkaoibaa
open Go.RowKit
set_option linter.unusedSimpArgs false
/-- The bytes of a number, the least first. -/
def bR (n : Nat) : List Value := (List.range 32).map fun i => .int .u8 ((n / 256 ^ i % 256 : Nat) : Int)
abbrev bV (n : Nat) : Value := .agg (bR n).toArray
theorem bR_length (n : Nat) : (bR n).length = 32 := by simp [bR]
theorem bR_one (n : Nat) : ∀ v ∈ bR n, v.oneCell' = true := fun v hv => by
  obtain ⟨x, _, rfl⟩ := List.mem_map.1 hv
  rfl
def bZ : List Value := List.replicate 32 (.int .u8 0)
theorem u_b32 : Try.prog.underlying 22 = some (.array 32 5) := by kernel_rfl
theorem info_b32o : (Try.prog.info? 22).map (·.size) = some 32 := by kernel_rfl
theorem info_bR (n : Nat) : (Try.prog.info? 22).map (·.size) = some (bR n).length := by rw [bR_length]; exact info_b32o
theorem zero_b32 (w : World) : (zeroValue 22).run Try.prog w = .ok (.agg bZ.toArray) w := I.zero_of (by kernel_rfl) w
/-- A number modulo P as the document has it. -/
abbrev fR (n : Nat) : List Value := (I.row 16 (I.fd n)).map I.dI
abbrev fZ : List Value := (I.row 16 I.z0).map I.dI
theorem fR_length (n : Nat) : (fR n).length = 16 := by simp [I.row]
theorem fZ_length : fZ.length = 16 := by simp [I.row]
theorem bZ_length : bZ.length = 32 := by simp [bZ]
theorem info_fR (n : Nat) : (Try.prog.info? 70).map (·.size) = some (fR n).length := I.info_row I.info_fe _
theorem Kn.rng {w : World} {L : List (Nat × List Value)} (h : Kn w L) (i : Nat) {k : Nat} {vs : List Value} (hp : L[i]? = some (k, vs)) : w.rangeAt k 0 vs := fun j v hv => by
  rw [Nat.zero_add]
  exact (h.all _ (List.mem_of_getElem? hp)).cell j v hv
theorem range_app {w : World} {k o : Nat} {a b : List Value} (h : w.rangeAt k o (a ++ b)) : w.rangeAt k o a ∧ w.rangeAt k (o + a.length) b := by
  refine ⟨fun j v hv => h j v ?_, fun j v hv => ?_⟩
  · rw [List.getElem?_append_left (List.getElem?_eq_some_iff.1 hv).1]
    exact hv
  · have := h (a.length + j) v (by rw [List.getElem?_append_right (by omega), show a.length + j - a.length = j by omega]; exact hv)
    rwa [← Nat.add_assoc] at this
theorem Kn.there {w : World} {L : List (Nat × List Value)} (h : Kn w L) (i : Nat) {k : Nat} {vs us : List Value} (hp : L[i]? = some (k, vs)) (hl : us.length = vs.length) : w.there k 0 us.length := fun j hj => by
  have hb := h.all _ (List.mem_of_getElem? hp)
  rw [Nat.zero_add]
  refine ⟨?_, hb.fz _⟩
  have hj' : j < vs.length := by omega
  rw [hb.cell j vs[j] (List.getElem?_eq_getElem hj')]
  rfl
theorem Kn.put {w : World} {L : List (Nat × List Value)} {k : Nat} {vs us : List Value} (h : Kn w ((k, vs) :: L)) (hl : us.length = vs.length) : Kn (w.setCells k 0 us) ((k, us) :: L) := by
  have ht := h.there 0 rfl hl
  refine ⟨h.nd, fun p hp => ?_⟩
  rcases List.mem_cons.1 hp with rfl | hp
  · refine ⟨by rw [I.size_setCells]; exact (h.all _ List.mem_cons_self).lt, fun j v hv => ?_, fun j => by rw [World.frozen?_setCells]; exact (h.all _ List.mem_cons_self).fz j⟩
    have := World.rangeAt_setCells_same w k 0 us ht j v hv
    rwa [Nat.zero_add] at this
  · have hb := h.all p (List.mem_cons_of_mem _ hp)
    have hk : p.1 ≠ k := fun e => by
      have := (List.nodup_cons.1 h.nd).1
      exact this (List.mem_map.2 ⟨p, hp, e⟩)
    exact ⟨by rw [I.size_setCells]; exact hb.lt, fun j v hv => by rw [World.cell?_setCells_out k us 0 w ⟨p.1, j, none⟩ (fun e _ => absurd e hk)]; exact hb.cell j v hv, fun j => by rw [World.frozen?_setCells]; exact hb.fz j⟩
/-- A row read whole, behind a guard too. -/
theorem wp_ldW {P : Program} {ops : Array Oper} {rest : List Oper} {o : Oper} {a : Act} {w : World} {Q : Exit → Act → World → Prop} (hgd : Region.wanted o (yielded ops a.tmps) = true) (ty : TypeId) (x : Operand) (ho : o.op = .load ty x)
    (b f : Nat) (hx : a.eval x = .pointer (some ⟨b, f, none⟩)) (cs : List Value) (d : TypeDesc) (hc : w.rangeAt b f cs) (hu : P.underlying ty = some d) (hd : d.isRow = true) (hi : (P.info? ty).map (·.size) = some cs.length)
    (h : wpList P ops Q rest (a.put o.dst (.agg cs.toArray)) w) : wpList P ops Q (o :: rest) a w :=
  wpList_step fun K hK => by simp only [hgd, if_true]; exact wp_load_mid ty x ho b f hx cs d hc hu hd hi (hK _ _ h)
/-- A variable of a drawn region is stored into whole. -/
theorem st_obj {ev : Operand → Value} {o : Oper} {x y : Operand} {T : TypeId} {k B : Nat} {w : World} {zs cs : List Value} (h : w.heap[k]? = some (.cells zs.toArray T)) (ho : o.op = .store T x y) (hx : ev x = .pointer (some ⟨k, 0, none⟩)) (hy : ev y = .agg cs.toArray) (hl : cs.length = zs.length)
    (hi : (Try.prog.info? T).map (·.size) = some cs.length) (h1 : ∀ v ∈ cs, v.oneCell' = true) :
    ∃ w'', (execOp ev o).run Try.prog w = .ok .skip w'' ∧ w''.heap[k]? = some (.cells cs.toArray T) ∧ (B ≤ k → Below B w w'') ∧ ∀ b, b ≠ k → w''.heap[b]? = w.heap[b]? := by
  have hb := KBlk.of h
  have ht : w.there k 0 cs.toArray.size := fun j hj => by
    rw [Nat.zero_add]
    refine ⟨?_, hb.fz _⟩
    have hj' : j < zs.length := by simpa [hl] using hj
    rw [hb.cell j zs[j] (List.getElem?_eq_getElem hj')]
    rfl
  refine ⟨w.setCells k 0 cs, ?_, ?_, fun hk => I.below_setCells _ _ _ (Below.refl _ _) hk, fun b hb' => I.heap_setCells_off k b hb' cs 0 w⟩
  · have hr := run_storeVar_mid (P := Try.prog) w k 0 T cs.toArray ht (by rw [List.size_toArray]; exact hi) (all_oneCell_toArray h1)
    unfold execOp
    simp only [ho, hx, hy, Instr.storeAt, Instr.sureAddr, Sem.run_bind, Sem.run_pure, Result.andThen_ok, hr]
  · have h2 : w.heap[k]? = some (.cells ([] ++ (zs ++ [])).toArray T) := by simpa using h
    have := I.heap_setCells_at k T (0, 0) cs [] zs [] w h2 hl.symm
    simpa using this
end Go.Proofs.Ytpnfopakkaoibaa

/- Fractions of package curve among the known blocks: rows of sixteen words that are never opened. -/
namespace Go.Proofs.Ytpnfopakkaoibaa
open Go.RowKit
set_option linter.unusedSimpArgs false
theorem c4_one (x : Nm) : ∀ v ∈ c4 x, v.oneCell' = true := fun v hv => by
  simp only [c4, List.mem_cons, List.not_mem_nil, or_false] at hv
  rcases hv with rfl | rfl | rfl | rfl <;> rfl
theorem info_num4 : (Try.prog.info? 28).map (·.size) = some 4 := by kernel_rfl
theorem info_c4 (x : Nm) : (Try.prog.info? 28).map (·.size) = some (c4 x).length := info_num4
end Go.Proofs.Ytpnfopakkaoibaa

/- Pairs of package ladder among the known blocks: rows of eight words that are never opened. -/
namespace Go.Proofs.Ytpnfopakkaoibaa
open Go.RowKit
set_option linter.unusedSimpArgs false
/-- x, z. -/
def lR (x y : Nm) : List Value := c4 x ++ c4 y
abbrev lV (x y : Nm) : Value := .agg (lR x y).toArray
def lZ : List Value := List.replicate 8 (.int .u64 0)
theorem lR_length (x y : Nm) : (lR x y).length = 8 := rfl
theorem lZ_length : lZ.length = 8 := by simp [lZ]
theorem lR_one (x y : Nm) : ∀ u ∈ lR x y, u.oneCell' = true := fun u hu => by
  unfold lR at hu
  rcases List.mem_append.1 hu with h | h
  · exact c4_one _ u h
  · exact c4_one _ u h
theorem info_lpr : (Try.prog.info? 62).map (·.size) = some 8 := by kernel_rfl
theorem info_lR (x y : Nm) : (Try.prog.info? 62).map (·.size) = some (lR x y).length := by rw [lR_length]; exact info_lpr
theorem zero_lpr (w : World) : (zeroValue 62).run Try.prog w = .ok (.agg lZ.toArray) w := I.zero_of (by kernel_rfl) w
theorem Kn.lng0 {w : World} {L : List (Nat × List Value)} (h : Kn w L) (i : Nat) {k : Nat} {x y : Nm} (hp : L[i]? = some (k, lR x y)) : w.rangeAt k 0 (c4 x) := (range_app (h.rng i hp)).1
theorem Kn.lng1 {w : World} {L : List (Nat × List Value)} (h : Kn w L) (i : Nat) {k : Nat} {x y : Nm} (hp : L[i]? = some (k, lR x y)) : w.rangeAt k 4 (c4 y) := (range_app (h.rng i hp)).2
theorem lpr_built (x y : Nm) : Try.prog.built 62 [(0, N x), (1, N y)] = some (lR x y).toArray := by kernel_rfl
theorem lpr_built1 (x : Nm) : Try.prog.built 62 [(0, N x)] = some (lR x ⟨0, 0, 0, 0⟩).toArray := by kernel_rfl
theorem quiet_buildL {ops : Array Oper} {C : World → Prop} {Q : Act → Prop} {o : Oper} {rest : List Oper} {a : Act} (hw : Region.wanted o (yielded ops a.tmps) = true) (T : TypeId) (x y : Operand) (ho : o.op = .build T #[(0, x), (1, y)]) (X Y : Value) (cs : List Value) (hx : a.eval x = X) (hy : a.eval y = Y) (hb : Try.prog.built T [(0, X), (1, Y)] = some cs.toArray)
    (h : wpQuiet Try.prog ops C Q rest (a.put o.dst (.agg cs.toArray))) : wpQuiet Try.prog ops C Q (o :: rest) a := by
  refine BigFrame.wpQuiet_want hw fun K hK => ⟨.agg cs.toArray, fun w _ => ?_, hK _ h⟩
  unfold Oper.quietAt
  have e1 : (Instr.build T ((#[(0, x), (1, y)] : Array (Nat × Operand)).map fun x => (x.fst, a.eval x.snd))).run Try.prog w = .ok (.agg cs.toArray) w := run_build w T _ _ (by simpa [hx, hy] using hb)
  have e : (execOp a.eval o).run Try.prog w = .ok (.value (.agg cs.toArray)) w := by
    simp only [execOp, ho, Sem.run_bind, e1, Result.andThen_ok, Sem.run_pure]
  rw [e]
  exact ⟨rfl, rfl⟩
theorem quiet_buildL1 {ops : Array Oper} {C : World → Prop} {Q : Act → Prop} {o : Oper} {rest : List Oper} {a : Act} (hw : Region.wanted o (yielded ops a.tmps) = true) (T : TypeId) (x : Operand) (ho : o.op = .build T #[(0, x)]) (X : Value) (cs : List Value) (hx : a.eval x = X) (hb : Try.prog.built T [(0, X)] = some cs.toArray)
    (h : wpQuiet Try.prog ops C Q rest (a.put o.dst (.agg cs.toArray))) : wpQuiet Try.prog ops C Q (o :: rest) a := by
  refine BigFrame.wpQuiet_want hw fun K hK => ⟨.agg cs.toArray, fun w _ => ?_, hK _ h⟩
  unfold Oper.quietAt
  have e1 : (Instr.build T ((#[(0, x)] : Array (Nat × Operand)).map fun x => (x.fst, a.eval x.snd))).run Try.prog w = .ok (.agg cs.toArray) w := run_build w T _ _ (by simpa [hx] using hb)
  have e : (execOp a.eval o).run Try.prog w = .ok (.value (.agg cs.toArray)) w := by
    simp only [execOp, ho, Sem.run_bind, e1, Result.andThen_ok, Sem.run_pure]
  rw [e]
  exact ⟨rfl, rfl⟩
end Go.Proofs.Ytpnfopakkaoibaa
