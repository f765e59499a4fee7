/- Texts that were joined: KnE, KnF, ShPn, KnP, ShRw, ShPl. -/
import Derived.Test.YtdcpicbkemmakaaDoorQKnToDNum
import Derived.Test.YtdcpicbkemmakaaDoorQUpXToUpR
import Derived.Test.YtdcpicbkemmakaaDoorQFMathToOfB
import Derived.Test.YtdcpicbkemmakaaDoorQDBelToDSrcB
import Derived.Test.YtdcpicbkemmakaaDoorQGArrToShD
import Derived.Test.YtdcpicbkemmakaaDoorQScF
import Derived.Test.YtdcpicbkemmakaaDoorQUpGToUpZe
import Derived.Test.YtdcpicbkemmakaaDoorQBKToHB
/- Two known blocks are not one; what stays where two blocks change. -/
namespace Go.Proofs.YtdcpicbkemmakaaDoor
open Go.RowKit
set_option linter.unusedSimpArgs false
theorem Kn.ne {w : World} {L : List (Nat × List Value)} (h : Kn w L) (i j : Nat) {a b : Nat} {x y : List Value} (hi : L[i]? = some (a, x)) (hj : L[j]? = some (b, y)) (hij : i ≠ j) : a ≠ b := fun e => by
  subst e
  have h1 : (L.map Prod.fst)[i]? = some a := by rw [List.getElem?_map, hi]; rfl
  have h2 : (L.map Prod.fst)[j]? = some a := by rw [List.getElem?_map, hj]; rfl
  exact hij ((List.getElem?_inj (List.getElem?_eq_some_iff.1 h1).1 h.nd).1 (h1.trans h2.symm))
theorem SameBut.rng {w W : World} {k1 k2 k : Nat} {vs : List Value} (h : SameBut w k1 k2 W) (hr : w.rangeAt k 0 vs) (h1 : k ≠ k1) (h2 : k ≠ k2) (hl : k < w.heap.size) : W.rangeAt k 0 vs := fun j v hv => by
  have e := h k hl h1 h2
  have := hr j v hv
  unfold World.cell? at this ⊢
  simp only [e]
  exact this
/-- What is known of blocks that are as they were. -/
theorem Kn.stay {W w1 : World} {L : List (Nat × List Value)} (h : Kn W L) (e : ∀ p ∈ L, w1.heap[p.1]? = W.heap[p.1]?) : Kn w1 L :=
  ⟨h.nd, fun p hp => by
    have hB := h.all p hp
    have he := e p hp
    refine ⟨?_, fun j v hv => ?_, fun j => ?_⟩
    · have h1 := hB.lt
      exact (Array.getElem?_eq_some_iff.1 (he.trans (Array.getElem?_eq_getElem h1))).1
    · rw [← hB.cell j v hv]
      simp [World.cell?, he]
    · rw [← hB.fz j]
      simp [World.frozen?, he]⟩
end Go.Proofs.YtdcpicbkemmakaaDoor

/- Fractions of package curve among the known blocks: rows of sixteen words that are never opened. -/
namespace Go.Proofs.YtdcpicbkemmakaaDoor
open Go.RowKit
set_option linter.unusedSimpArgs false
theorem zz4_length : zz4.length = 4 := rfl
theorem c4_length (x : Nm) : (c4 x).length = 4 := rfl
theorem c4_one (x : Nm) : ∀ v ∈ c4 x, v.oneCell' = true := fun v hv => by
  simp only [c4, List.mem_cons, List.not_mem_nil, or_false] at hv
  rcases hv with rfl | rfl | rfl | rfl <;> rfl
theorem info_num4 : (Tryd.prog.info? 24).map (·.size) = some 4 := by kernel_rfl
theorem info_c4 (x : Nm) : (Tryd.prog.info? 24).map (·.size) = some (c4 x).length := info_num4
end Go.Proofs.YtdcpicbkemmakaaDoor

/- Package share, as it landed: the next number of the polynomial. -/
namespace Go.Proofs.YtdcpicbkemmakaaDoor
open Go.RowKit
attribute [local go_sem] World.cell?_alloc_some cell_alloc2 cell_alloc3 cell_alloc4 frozen?_alloc_cells frozen_out
set_option linter.unusedSimpArgs false
theorem cfSL (args : Array Value) (W : World) : (callFunc 14 args).run Tryd.prog W = .ok (.enter 14 args) W := cf_is (fn := Tryd.f14) (by kernel_rfl) (by decide) (by kernel_rfl) args W
theorem cfSBe (args : Array Value) (W : World) : (callFunc 25 args).run Tryd.prog W = .ok (.enter 25 args) W := cf_is (fn := Tryd.f25) (by kernel_rfl) (by decide) (by kernel_rfl) args W
theorem exec_ldP {o : Oper} {a : Act} {v : Value} {b q : Nat} (x : Operand) (ho : o.op = .load 50 x) (hx : a.eval x = .pointer (some ⟨b, q, none⟩)) (W : World) (hc : W.cell? ⟨b, q, none⟩ = some v) : (execOp a.eval o).run Tryd.prog W = .ok (.value v) W := by
  generalize a.eval = ev at *
  unfold execOp
  simp [ho, hx, go_sem, hc]
set_option maxRecDepth 20000 in
set_option maxHeartbeats 4000000 in
theorem next_walk (q k : Nat) (w : World) (hq : q < w.heap.size) (hqk : q ≠ k) (hk : k < w.heap.size) (hv : w.cell? ⟨q, 0, none⟩ = some (ptr k)) (PP : World → Ending → World → Prop)
    (BE : Hid (∀ W, Below w.heap.size w W → Calls Tryd.prog 25 #[ptr k, N lN] W fun e w' => ∃ R c, e = .returned (.tuple #[N R, .int .i64 c]) ∧ Fr W k w' ∧ ∀ W', W'.heap[k]? = w'.heap[k]? → Fr w k W' → PP w (.returned (.tuple #[N R, .int .i64 c])) W')) :
    Calls Tryd.prog 24 #[ptr q] w fun e w' => PP w e w' := by
  have SW : Hid (∀ W, Fr w k W → W.cell? ⟨q, 0, none⟩ = some (ptr k)) := fun W hW => by
    have e := hW.block q hq (fun e => hqk (Option.some.inj e))
    rw [← hv]
    unfold World.cell?
    simp only [e]
  have KL : Hid (k < w.heap.size) := hk
  clear hq hqk hv hk
  go_enter Tryd.func24, Tryd.ntmps24
  have s0 : Hid (Kn (w.alloc (.cells #[Value.int IntKind.u64 0, Value.int IntKind.u64 0, Value.int IntKind.u64 0, Value.int IntKind.u64 0] 24)) [(w.heap.size, zz4)]) := ((Kn.nil w).al zz4 24 rfl)
  have b0 : Hid (Below w.heap.size w (w.alloc (.cells #[Value.int IntKind.u64 0, Value.int IntKind.u64 0, Value.int IntKind.u64 0, Value.int IntKind.u64 0] 24))) := ((Below.refl _ _).alloc (Nat.le_refl _) _)
  go_wp2_with fail
  have F0 : Fr w k { (w.alloc (.cells zz4.toArray 24)) with drawn := (w.alloc (.cells zz4.toArray 24)).drawn + 1 } := Fr.of (b0.out.drew)
  have K0 : Kn { (w.alloc (.cells zz4.toArray 24)) with drawn := (w.alloc (.cells zz4.toArray 24)).drawn + 1 } [(w.heap.size, zz4)] := s0.out.up (Below.refl _ _).drew
  have B0 : Below w.heap.size w { (w.alloc (.cells zz4.toArray 24)) with drawn := (w.alloc (.cells zz4.toArray 24)).drawn + 1 } := b0.out.drew
  refine wp_region_held (S := fun W => W.cell? ⟨q, 0, none⟩ = some (ptr k)) (by kernel_rfl) ?_
  refine wpAnyH_take (i := 0) (v := ptr k) (fuel := 6) rfl (by kernel_rfl) (by kernel_rfl) (by kernel_rfl) (fun _ _ _ h => h) (.inl ⟨wanted_none rfl, fun W hW => exec_ldP (.tmp 0) rfl (by kernel_rfl) W hW⟩) (SW.out _ F0) ?_
  simp only [List.getElem_toArray, List.getElem_cons_succ, List.getElem_cons_zero, Act.put, List.setIfInBounds_toArray, List.set_cons_succ, List.set_cons_zero]
  refine anyH_one (i := 1) (by kernel_rfl) ?_
  refine anyH_y (φ := (MP.eq (N lN)).p) rfl (wanted_none rfl) (yields_call0 cfSL _ rfl ((sL_walk _).mono fun e w' ⟨he, hb⟩ => ⟨_, he, rfl, hb⟩)) ?_
  intro c1 w1 e1 hb1
  obtain rfl : c1 = N lN := e1
  have F1 : Fr w k w1 := F0.then hb1
  have K1 := K0.up hb1
  have B1 : Below w.heap.size w w1 := B0.trans (hb1.mono B0.size)
  refine ⟨SW.out _ F1, ?_⟩
  simp only [List.getElem_toArray, List.getElem_cons_succ, List.getElem_cons_zero, Act.put, List.setIfInBounds_toArray, List.set_cons_succ, List.set_cons_zero]
  refine anyH_one (i := 2) (by kernel_rfl) ?_
  refine anyH_call2 cfSBe rfl (wanted_none rfl) (.tmp 3) (.tmp 4) _ rfl (ptr k) (N lN) (by kernel_rfl) (by kernel_rfl) ((BE.out w1 B1).mono fun e w2 hp => ?_)
  obtain ⟨R, c, rfl, hF, hP⟩ := hp
  refine ⟨_, rfl, ?_⟩
  have F2 : Fr w k w2 := F1.trans hF
  have Z2 : Kn w2 [(w.heap.size, zz4)] := K1.stay fun p hp => by
    have h1 := (K1.all _ hp).lt
    obtain rfl := List.mem_singleton.1 hp
    exact hF.block _ h1 (fun e => absurd (Option.some.inj e) (Nat.ne_of_gt KL.out))
  clear K1 K0 hb1
  refine ⟨SW.out _ F2, ?_⟩
  simp only [List.getElem_toArray, List.getElem_cons_succ, List.getElem_cons_zero, Act.put, List.setIfInBounds_toArray, List.set_cons_succ, List.set_cons_zero]
  refine wpAnyH_take (i := 3) (v := N R) rfl (by kernel_rfl) (by kernel_rfl) (by kernel_rfl) (fun _ _ _ h => h) (Yields.yieldsIf (.inl ⟨wanted_none rfl, exec_exM (.tmp 5) 0 rfl (vs := #[N R, .int .i64 c]) (by kernel_rfl) rfl⟩)) (SW.out _ F2) ?_
  simp only [List.getElem_toArray, List.getElem_cons_succ, List.getElem_cons_zero, Act.put, List.setIfInBounds_toArray, List.set_cons_succ, List.set_cons_zero]
  refine wpAnyH_take (i := 4) (v := .int .i64 c) rfl (by kernel_rfl) (by kernel_rfl) (by kernel_rfl) (fun _ _ _ h => h) (Yields.yieldsIf (.inl ⟨wanted_none rfl, exec_exM (.tmp 5) 1 rfl (vs := #[N R, .int .i64 c]) (by kernel_rfl) rfl⟩)) (SW.out _ F2) ?_
  simp only [List.getElem_toArray, List.getElem_cons_succ, List.getElem_cons_zero, Act.put, List.setIfInBounds_toArray, List.set_cons_succ, List.set_cons_zero]
  refine anyH_one (i := 5) (by kernel_rfl) ?_
  refine anyH_l rfl (I.wp_store_eq rfl 24 (.tmp 1) (.tmp 6) rfl w.heap.size 0 (c4 R) (by kernel_rfl) (by kernel_rfl) (Kn.there Z2 0 rfl rfl) (info_c4 R) (one_c4M R) ?_)
  intro w3 hw3
  have Z3 : Kn w3 [(w.heap.size, c4 R)] := by rw [hw3.out]; exact Kn.put Z2 rfl
  have F3 : Fr w k w3 := by rw [hw3.out]; exact F2.put _ _ _ (Nat.le_refl _)
  have E3 : w3.heap[k]? = w2.heap[k]? := by rw [hw3.out]; exact heap_setCells_off _ _ (Nat.ne_of_lt KL.out) _ _ _
  clear hw3
  refine anyH_end ⟨SW.out _ F3, ?_⟩
  simp only [List.getElem_toArray, List.getElem_cons_succ, List.getElem_cons_zero, Act.put, List.setIfInBounds_toArray, List.set_cons_succ, List.set_cons_zero]
  refine anyH_one (i := 6) (by kernel_rfl) ?_
  refine anyH_y (φ := (MP.eq (.int .i64 c)).p) rfl (wanted_none rfl) (yields_as (.tmp 7) rfl (by kernel_rfl)) ?_
  intro cz wz ez hbz
  obtain rfl : cz = .int .i64 c := ez
  have F4 : Fr w k wz := F3.then hbz
  have Z4 : Kn wz [(w.heap.size, c4 R)] := Z3.up hbz
  have P4 : PP w (.returned (.tuple #[N R, .int .i64 c])) wz := hP wz ((hbz.block k (Nat.lt_of_lt_of_le KL.out F3.size)).trans E3) F4
  refine ⟨SW.out _ F4, ?_⟩
  simp only [List.getElem_toArray, List.getElem_cons_succ, List.getElem_cons_zero, Act.put, List.setIfInBounds_toArray, List.set_cons_succ, List.set_cons_zero]
  refine wpAnyH_done (by kernel_rfl) ?_ _
  clear hP F3 F2 F1 F0 Z3 Z2 hbz E3 B1 B0 hF SW BE s0 b0
  go_wp2_with fail
  refine bodyPost_ret (v := .tuple #[N R, .int .i64 c]) ?_ rfl P4
  exact results_cell2 (b := w.heap.size) (cs := c4 R) rfl rfl rfl (Kn.rng Z4 0 rfl) Tryd.underlying24 rfl (info_c4 R)
/-- The next number: the source's own. -/
theorem next_fun {seed : List Nat} {F : Nat → Prop} {q k p : Nat} (w : World) (hq : q < w.heap.size) (hqk : q ≠ k) (hv : w.cell? ⟨q, 0, none⟩ = some (ptr k)) (hs : Src w k F seed p) (hK : KTab w) (hk : 0 < k) :
    Calls Tryd.prog 24 #[ptr q] w fun e w' => BePost seed F p 253 Cv.ord k w e w' := by
  refine next_walk q k w hq hqk hs.blk.lt hv (fun w e w' => BePost seed F p 253 Cv.ord k w e w') fun W hW => ?_
  refine (sbelow_fun lN lN_ok Cv.ord 253 lN_nat ord_pos bl_ord W (hs.up hW hs.blk.lt) (hK.up hW hK.pos) hk).mono ?_
  rintro e w' ⟨he, hS, hF⟩
  have hR : ∃ R c, e = .returned (.tuple #[N R, .int .i64 c]) := by
    rw [he]
    cases belS seed p 253 Cv.ord with
    | none => exact ⟨_, _, rfl⟩
    | some t => exact ⟨_, _, rfl⟩
  obtain ⟨R, c, hRc⟩ := hR
  refine ⟨R, c, hRc, hF, fun W' e' hW' => ?_⟩
  rw [← hRc]
  exact ⟨he, hS.stay e', hW'⟩
end Go.Proofs.YtdcpicbkemmakaaDoor

/- Part of a known block is stored; a block of rows, one after another. -/
namespace Go.Proofs.YtdcpicbkemmakaaDoor
open Go.RowKit
set_option linter.unusedSimpArgs false
theorem Kn.putAt {w : World} {L : List (Nat × List Value)} {k o : Nat} {a b c b' : List Value} (h : Kn w ((k, a ++ (b ++ c)) :: L)) (ho : o = a.length) (hl : b'.length = b.length) : Kn (w.setCells k o b') ((k, a ++ (b' ++ c)) :: L) := by
  refine ⟨h.nd, fun p hp => ?_⟩
  rcases List.mem_cons.1 hp with rfl | hp
  · have h0 := h.all _ List.mem_cons_self
    have h1 : Blk w k (a ++ (b ++ c)) := ⟨h0.lt, h0.cell, h0.fz⟩
    have h2 := h1.store (b' := b') ho hl
    exact ⟨h2.lt, h2.cell, h2.fz⟩
  · have hb := h.all p (List.mem_cons_of_mem _ hp)
    have hk : p.1 ≠ k := fun e => by
      have := (List.nodup_cons.1 h.nd).1
      exact this (List.mem_map.2 ⟨p, hp, e⟩)
    exact ⟨by rw [I.size_setCells]; exact hb.lt, fun j v hv => by rw [World.cell?_setCells_out k b' o w ⟨p.1, j, none⟩ (fun e _ => absurd e hk)]; exact hb.cell j v hv, fun j => by rw [World.frozen?_setCells]; exact hb.fz j⟩
/-- Rows of sz cells each. -/
def rowL (sz : Nat) (f : Nat → Nat → Value) (n : Nat) : List Value := (List.range (n * sz)).map fun q => f (q / sz) (q % sz)
theorem rowL_length (sz : Nat) (f : Nat → Nat → Value) (n : Nat) : (rowL sz f n).length = n * sz := by rw [rowL, List.length_map, List.length_range]
theorem row_lt {sz n i r : Nat} (hi : i < n) (hr : r < sz) : i * sz + r < n * sz := by
  have h : (i + 1) * sz ≤ n * sz := Nat.mul_le_mul_right _ hi
  rw [Nat.add_mul, Nat.one_mul] at h
  omega
theorem rowL_get {sz n i r : Nat} (f : Nat → Nat → Value) (hi : i < n) (hr : r < sz) : (rowL sz f n)[i * sz + r]? = some (f i r) := by
  have hs : 0 < sz := by omega
  rw [rowL, List.getElem?_map, List.getElem?_range (row_lt hi hr)]
  have e1 : (i * sz + r) / sz = i := by rw [Nat.mul_comm, Nat.mul_add_div hs, Nat.div_eq_of_lt hr, Nat.add_zero]
  have e2 : (i * sz + r) % sz = r := by rw [Nat.mul_comm, Nat.mul_add_mod, Nat.mod_eq_of_lt hr]
  simp only [Option.map_some, e1, e2]
theorem rowL_congr {sz n : Nat} {f g : Nat → Nat → Value} (h : ∀ i, i < n → ∀ r, r < sz → f i r = g i r) : rowL sz f n = rowL sz g n := by
  unfold rowL
  refine List.map_congr_left fun q hq => ?_
  have hq := List.mem_range.1 hq
  have hs : 0 < sz := by
    rcases Nat.eq_zero_or_pos sz with e | e
    · rw [e, Nat.mul_zero] at hq; omega
    · exact e
  exact h _ (Nat.div_lt_of_lt_mul (by rw [Nat.mul_comm]; exact hq)) _ (Nat.mod_lt _ hs)
theorem Kn.row {w : World} {L : List (Nat × List Value)} {k sz n i : Nat} {f : Nat → Nat → Value} (h : Kn w ((k, rowL sz f n) :: L)) (hi : i < n) (vs : List Value) (hl : vs.length = sz) (hv : ∀ r v, vs[r]? = some v → f i r = v) : w.rangeAt k (i * sz) vs := fun r v hr => by
  have hr' : r < sz := by rw [← hl]; exact (List.getElem?_eq_some_iff.1 hr).1
  have := Kn.get h 0 (i * sz + r) rfl (rowL_get f hi hr')
  rw [hv r v hr] at this
  exact this
/-- One row is stored. -/
theorem Kn.rowPut {w : World} {L : List (Nat × List Value)} {k sz n i : Nat} {f : Nat → Nat → Value} (h : Kn w ((k, rowL sz f n) :: L)) (hi : i < n) (vs : List Value) (hl : vs.length = sz) : Kn (w.setCells k (i * sz) vs) ((k, rowL sz (fun j r => if j = i then vs.getD r (.bool false) else f j r) n) :: L) := by
  have hb : i * sz + sz ≤ n * sz := by
    have h : (i + 1) * sz ≤ n * sz := Nat.mul_le_mul_right _ hi
    rw [Nat.add_mul, Nat.one_mul] at h
    exact h
  have e : rowL sz f n = (rowL sz f n).take (i * sz) ++ (((rowL sz f n).drop (i * sz)).take sz ++ (rowL sz f n).drop (i * sz + sz)) := by
    rw [← List.drop_drop, List.take_append_drop, List.take_append_drop]
  have e2 : (rowL sz f n).take (i * sz) ++ (vs ++ (rowL sz f n).drop (i * sz + sz)) = rowL sz (fun j r => if j = i then vs.getD r (.bool false) else f j r) n := by
    have l1 : ((rowL sz f n).take (i * sz)).length = i * sz := by rw [List.length_take, rowL_length]; omega
    refine List.ext_getElem (by rw [List.length_append, List.length_append, l1, List.length_drop, rowL_length, rowL_length, hl]; omega) fun q h1 h2 => ?_
    have hq : q < n * sz := by rw [rowL_length] at h2; exact h2
    have hs : 0 < sz := by
      rcases Nat.eq_zero_or_pos sz with e | e
      · rw [e, Nat.mul_zero] at hq; omega
      · exact e
    have hd := Nat.div_add_mod q sz
    have hm := Nat.mod_lt q hs
    have er : (rowL sz (fun j r => if j = i then vs.getD r (.bool false) else f j r) n)[q] = if q / sz = i then vs.getD (q % sz) (.bool false) else f (q / sz) (q % sz) := by
      simp only [rowL, List.getElem_map, List.getElem_range]
    have ef : ∀ hq', (rowL sz f n)[q]'hq' = f (q / sz) (q % sz) := fun hq' => by simp only [rowL, List.getElem_map, List.getElem_range]
    rw [er]
    rw [Nat.mul_comm] at hd
    by_cases c1 : q < i * sz
    · rw [List.getElem_append_left (by rw [l1]; exact c1), List.getElem_take, ef, if_neg]
      intro e
      rw [e] at hd
      omega
    · rw [List.getElem_append_right (by rw [l1]; omega)]
      by_cases c2 : q < i * sz + sz
      · have ei : q / sz = i := by
          have h1 : i ≤ q / sz := (Nat.le_div_iff_mul_le hs).2 (by omega)
          have h2 : q / sz < i + 1 := (Nat.div_lt_iff_lt_mul hs).2 (by rw [Nat.add_mul, Nat.one_mul]; omega)
          omega
        rw [if_pos ei, List.getElem_append_left (by rw [l1, hl]; omega)]
        have em : q - i * sz = q % sz := by rw [ei] at hd; omega
        rw [List.getD_eq_getElem?_getD, List.getElem?_eq_getElem (by rw [hl]; exact hm)]
        simp only [l1, em, Option.getD_some]
      · rw [List.getElem_append_right (by rw [l1, hl]; omega), List.getElem_drop]
        have eq : i * sz + sz + (q - ((rowL sz f n).take (i * sz)).length - vs.length) = q := by rw [l1, hl]; omega
        simp only [eq]
        rw [ef, if_neg]
        intro e
        rw [e] at hd
        omega
  rw [e] at h
  have := Kn.putAt (b' := vs) h (show i * sz = _ by rw [List.length_take, rowL_length]; omega) (by rw [hl, List.length_take, List.length_drop, rowL_length]; omega)
  rw [e2] at this
  exact this
theorem Kn.rowThere {w : World} {L : List (Nat × List Value)} {k sz n i : Nat} {f : Nat → Nat → Value} (h : Kn w ((k, rowL sz f n) :: L)) (hi : i < n) (vs : List Value) (hl : vs.length = sz) : w.there k (i * sz) vs.length := fun r hr => by
  rw [hl] at hr
  have := Kn.get h 0 (i * sz + r) rfl (rowL_get f hi hr)
  have hf := Kn.fz h 0 rfl (i * sz + r)
  exact ⟨by rw [this]; rfl, hf⟩
end Go.Proofs.YtdcpicbkemmakaaDoor

/- Rows made, of any kind. -/
namespace Go.Proofs.YtdcpicbkemmakaaDoor
open Go.RowKit
set_option linter.unusedSimpArgs false
theorem made_rows (zs : List Value) (n : Nat) : (madeCells (Value.agg zs.toArray).cells (n * zs.length)).toList = rowL zs.length (fun _ r => zs.getD r (.bool false)) n := by
  refine List.ext_getElem (by simp [madeCells, rowL_length]) fun i h1 h2 => ?_
  rw [rowL_length] at h2
  have hs : 0 < zs.length := by
    rcases Nat.eq_zero_or_pos zs.length with e | e
    · rw [e, Nat.mul_zero] at h2; omega
    · exact e
  have hm := Nat.mod_lt i hs
  simp [madeCells, Value.cells, rowL, List.getD_eq_getElem?_getD, hm]
theorem wp_mkRow {ops : Array Oper} {rest : List Oper} {o : Oper} {a : Act} {Q : Exit → Act → World → Prop} {w : World} (hg : o.guard = none) (T e : TypeId) (zs : List Value) (by_ : Nat) (uT : Tryd.prog.underlying T = some (.slice e)) (iT : (Tryd.prog.info? e).map (fun i => (i.zero, i.size, i.bytes)) = some (some (.agg zs.toArray), zs.length, by_)) (hb : by_ ≤ 1000) (l c : Operand) (hop : o.op = Op.makeSlice T l c)
    (n : Nat) (L : Int) (hl : a.eval l = .int .i64 L) (hc : a.eval c = .int .i64 L) (hL : L = (n : Int)) (hn : n ≤ 65536)
    (h : ∀ w', KBlk w' w.heap.size (rowL zs.length (fun _ r => zs.getD r (.bool false)) n) → Below w.heap.size w w' → wpList Tryd.prog ops Q rest (a.put o.dst (.slice (some ⟨w.heap.size, 0, none⟩) n n)) w') : wpList Tryd.prog ops Q (o :: rest) a w := by
  obtain ⟨i0, hi, hz0, hz1, hz2⟩ := info_parts iT
  have hbn : by_ * n ≤ 1000 * 65536 := Nat.mul_le_mul hb hn
  refine wpList_make_full w hg l c T hop w.heap.size e i0 (.agg zs.toArray) zs.length uT hi hz0 hz1 .i64 .i64 L L n hl hc hL hL (by rw [hz2]; omega) (by unfold maxLen; omega) (Nat.le_refl _) ?_
  intro w' r1 r2
  refine h w' ?_ (Below.grown (Below.refl _ _) r2 (Nat.le_refl _) (fun k hk => by cases hk))
  rcases r1.2 with ⟨e', _⟩ | ⟨g, cap, cur, e', _, hgg, _, _, hsz, htk⟩
  · cases e'
  · cases e'
    have e2 : cur.toList = rowL zs.length (fun _ r => zs.getD r (.bool false)) n := by
      rw [List.take_of_length_le (by rw [Array.length_toList, hsz]; omega)] at htk
      rw [htk, made_rows]
    refine KBlk.of (t := e) ?_
    rw [← e2]
    exact hgg
theorem uNumsL : Tryd.prog.underlying 52 = some (.slice 24) := by kernel_rfl
theorem iNum : (Tryd.prog.info? 24).map (fun i => (i.zero, i.size, i.bytes)) = some (some (.agg zz4.toArray), zz4.length, 32) := by kernel_rfl
theorem iShr : (Tryd.prog.info? 38).map (fun i => (i.zero, i.size, i.bytes)) = some (some (.agg shZ.toArray), shZ.length, 40) := by kernel_rfl
end Go.Proofs.YtdcpicbkemmakaaDoor

/- Package share, as it landed: polynomial's walk. -/
namespace Go.Proofs.YtdcpicbkemmakaaDoor
open Go.RowKit
attribute [local go_sem] World.cell?_alloc_some cell_alloc2 cell_alloc3 cell_alloc4 frozen?_alloc_cells frozen_out
set_option linter.unusedSimpArgs false
abbrev nxV (q : Nat) : Value := .func (.func 24) #[] #[ptr q]
/-- The cells of the polynomial's numbers, so many of which are there. -/
def plF (cf : Nat → Nm) (m i r : Nat) : Value := if i < m then (c4 (cf i)).getD r (.bool false) else zz4.getD r (.bool false)
def plR (cf : Nat → Nm) (m k : Nat) : List Value := rowL 4 (plF cf m) k
theorem plR_zero (cf : Nat → Nm) (k : Nat) : rowL zz4.length (fun _ r => zz4.getD r (.bool false)) k = plR cf 0 k := rowL_congr fun i _ r _ => by
  unfold plF
  rw [if_neg (Nat.not_lt_zero _)]
theorem plR_put {w : World} {L : List (Nat × List Value)} {g m k : Nat} {cf : Nat → Nm} (h : Kn w ((g, plR cf m k) :: L)) (hm : m < k) : Kn (w.setCells g (m * 4) (c4 (cf m))) ((g, plR cf (m + 1) k) :: L) := by
  have := h.rowPut hm (c4 (cf m)) rfl
  have e : rowL 4 (fun j r => if j = m then (c4 (cf m)).getD r (.bool false) else plF cf m j r) k = plR cf (m + 1) k := rowL_congr fun i _ r _ => by
    unfold plF
    by_cases h1 : i = m
    · rw [if_pos h1, if_pos (by omega), h1]
    · rw [if_neg h1]
      by_cases h2 : i < m
      · rw [if_pos h2, if_pos (by omega)]
      · rw [if_neg h2, if_neg (by omega)]
  rw [e] at this
  exact this
theorem plR_rng {w : World} {L : List (Nat × List Value)} {g i m k : Nat} {cf : Nat → Nm} (h : Kn w ((g, plR cf m k) :: L)) (hi : i < m) (hm : m ≤ k) : w.rangeAt g (i * 4) (c4 (cf i)) :=
  h.row (by omega) (c4 (cf i)) rfl fun r v hv => by
    unfold plF
    rw [if_pos hi, List.getD_eq_getElem?_getD, hv]
    rfl
/-- What polynomial ends with. -/
def PlPost (cf : Nat → Nm) (er : Nat → Int) (k src : Nat) (w : World) (e : Ending) (w' : World) : Prop :=
  ∃ v r, e = .returned (.tuple #[v, .int .i64 r]) ∧ Fr w src w' ∧
    (((∀ m, m + 1 < k → er m = 0) ∧ r = 0 ∧ ∃ g, v = .slice (some ⟨g, 0, none⟩) k k ∧ w.heap.size ≤ g ∧ Kn w' [(g, plR cf k k)]) ∨
    (∃ m, m + 1 < k ∧ (∀ i, i < m → er i = 0) ∧ er m ≠ 0 ∧ r = er m))
set_option maxRecDepth 20000 in
set_option maxHeartbeats 4000000 in
theorem poly_walk (k : Nat) (k1 : 1 ≤ k) (k20 : k ≤ 20) (q src : Nat) (cf : Nat → Nm) (er : Nat → Int) (St : World → Nat → Prop) (w : World) (hsrc : src < w.heap.size)
    (S0 : Hid (St w 0)) (SU : Hid (∀ W W' m, St W m → W'.heap[src]? = W.heap[src]? → St W' m))
    (NX : Hid (∀ m, m + 1 < k → ∀ W, Fr w src W → St W m → (∀ i, i < m → er i = 0) → Calls Tryd.prog 24 #[ptr q] W fun e w' => e = .returned (.tuple #[N (cf (m + 1)), .int .i64 (er m)]) ∧ St w' (m + 1) ∧ Fr W src w')) :
    Calls Tryd.prog 23 #[N (cf 0), .int .i64 (k : Int), nxV q] w fun e w' => PlPost cf er k src w e w' := by
  have K20 : Hid (1 ≤ k ∧ k ≤ 20) := ⟨k1, k20⟩
  have HS : Hid (src < w.heap.size) := hsrc
  have k0 : (0 : Int) < (k : Int) := by omega
  clear k1 k20 hsrc
  go_enter Tryd.func23, Tryd.ntmps23
  have s0 : Hid (Kn (kal4 w (cf 0)) [(w.heap.size, (c4 (cf 0)))]) := ((Kn.nil w).al (c4 (cf 0)) 24 rfl)
  have b0 : Hid (Below w.heap.size w (kal4 w (cf 0))) := ((Below.refl _ _).alloc (Nat.le_refl _) _)
  go_wp2_with (refine wp_mkRow rfl 52 24 zz4 32 uNumsL iNum (by decide) _ _ rfl k _ rfl rfl rfl (by have := K20.out; omega) ?_)
  intro w1 k1 h1
  have g1 : (kal4 w (cf 0)).heap.size = w.heap.size + 1 := by simp
  have h1' : Below (kal4 w (cf 0)).heap.size (kal4 w (cf 0)) w1 := by rw [g1]; exact h1
  have k1' : KBlk w1 (kal4 w (cf 0)).heap.size (plR cf 0 k) := by rw [g1, ← plR_zero]; exact k1
  have s1 : Hid (Kn w1 [(w.heap.size + 1, plR cf 0 k), (w.heap.size, c4 (cf 0))]) := by
    have := s0.out.fresh_of h1' (Nat.le_refl _) k1'
    rw [g1] at this
    exact this
  have b1 : Hid (Below w.heap.size w w1) := b0.out.trans (h1'.mono b0.out.size)
  clear h1 k1 h1' k1' g1 s0 b0
  have T1 : Hid (w1.there (w.heap.size + 1) 0 (c4 (cf 0)).length) := by
    have := Kn.rowThere (sz := 4) s1.out (i := 0) K20.out.1 (c4 (cf 0)) rfl
    rw [Nat.zero_mul] at this
    exact this
  have us_0 : w1.cell? ⟨w.heap.size, 0, none⟩ = some (.int .u64 (cf 0).a) := Kn.get s1.out 1 0 rfl rfl
  have us_1 : w1.cell? ⟨w.heap.size, 1, none⟩ = some (.int .u64 (cf 0).b) := Kn.get s1.out 1 1 rfl rfl
  have us_2 : w1.cell? ⟨w.heap.size, 2, none⟩ = some (.int .u64 (cf 0).c) := Kn.get s1.out 1 2 rfl rfl
  have us_3 : w1.cell? ⟨w.heap.size, 3, none⟩ = some (.int .u64 (cf 0).d) := Kn.get s1.out 1 3 rfl rfl
  go_wp2_with (refine I.wp_store_eq rfl 24 _ _ rfl (w.heap.size + 1) 0 (c4 (cf 0)) rfl rfl T1.out (info_c4 _) (c4_one _) ?_)
  intro w2 hw2
  have s2 : Hid (Kn w2 [(w.heap.size + 1, plR cf 1 k), (w.heap.size, c4 (cf 0))]) := by
    have := plR_put s1.out (m := 0) K20.out.1
    rw [Nat.zero_mul] at this
    rw [hw2.out]
    exact this
  have F2 : Hid (Fr w src w2) := by
    rw [hw2.out]
    exact (Fr.of b1.out).put _ _ _ (Nat.le_succ _)
  have t2 : Hid (St w2 0) := SU.out _ _ _ S0.out (by rw [hw2.out, heap_setCells_off _ _ (by have := HS.out; omega)]; exact b1.out.block _ HS.out)
  clear us_0 us_1 us_2 us_3 hw2 s1 b1 T1 S0
  go_wp2_with fail
  go_loopw [9] (fun t wr => ∃ m : Nat, m + 1 ≤ k ∧ t = .int .i64 ((m + 1 : Nat) : Int) ∧ Hid (∀ i, i < m → er i = 0) ∧ Hid (Kn wr [(w.heap.size + 1, plR cf (m + 1) k), (w.heap.size, c4 (cf 0))]) ∧ Hid (St wr m) ∧ Hid (Fr w src wr)) (fun t _ => k - (intOf t).toNat)
  case atStart => exact ⟨0, K20.out.1, rfl, fun i hi => absurd hi (Nat.not_lt_zero _), s2, t2, F2⟩
  case round =>
    clear s2 t2 F2
    obtain ⟨m, hm, rfl, no, s2, t2, F2⟩ := hrel
    by_cases hlt : m + 1 < k
    · have j1 : ((m + 1 : Nat) : Int) < (k : Int) := by omega
      have j0 : (0 : Int) ≤ ((m + 1 : Nat) : Int) := by omega
      have j20 : ((m + 1 : Nat) : Int) < 20 := by have := K20.out; omega
      have HM : Hid (m + 1 < k) := hlt
      clear hlt hm
      go_wp2_with fail
      refine (NX.out m HM.out _ F2.out t2.out no.out).mono ?_
      rintro e w6 ⟨rfl, t6', hF⟩
      have s6 : Hid (Kn w6 [(w.heap.size + 1, plR cf (m + 1) k), (w.heap.size, c4 (cf 0))]) := s2.out.stay fun p hp => by
        have h1 := (s2.out.all p hp).lt
        refine hF.block _ h1 (fun e => ?_)
        have e := Option.some.inj e
        have := HS.out
        simp only [List.mem_cons, List.not_mem_nil, or_false] at hp
        rcases hp with rfl | rfl <;> simp only at e <;> omega
      have F6 : Hid (Fr w src w6) := F2.out.trans hF
      have t6 : Hid (St w6 (m + 1)) := t6'
      clear hF t6' s2 F2 t2
      have s7 : Hid (Kn (kal4 w6 (cf (m + 1))) [(w6.heap.size, c4 (cf (m + 1))), (w.heap.size + 1, plR cf (m + 1) k), (w.heap.size, c4 (cf 0))]) := s6.out.al (c4 (cf (m + 1))) 24 rfl
      have ba : Below w6.heap.size w6 (kal4 w6 (cf (m + 1))) := (Below.refl _ _).alloc (Nat.le_refl _) _
      have F7 : Hid (Fr w src (kal4 w6 (cf (m + 1)))) := F6.out.then ba
      have t7 : Hid (St (kal4 w6 (cf (m + 1))) (m + 1)) := SU.out _ _ _ t6.out (ba.block _ (Nat.lt_of_lt_of_le HS.out F6.out.size))
      clear s6 F6 t6 ba
      by_cases he : er m = 0
      · have e1 : (er m != 0) = false := by rw [he]; rfl
        have no' : Hid (∀ i, i < m + 1 → er i = 0) := fun i hi => by
          by_cases e : i = m
          · rw [e]; exact he
          · exact no.out i (by omega)
        have T7 : Hid ((kal4 w6 (cf (m + 1))).there (w.heap.size + 1) ((m + 1) * 4) (c4 (cf (m + 1))).length) := Kn.rowThere (sz := 4) (s7.out.front 1 rfl) HM.out (c4 (cf (m + 1))) rfl
        clear he no
        have ux_0 : (kal4 w6 (cf (m + 1))).cell? ⟨w6.heap.size, 0, none⟩ = some (.int .u64 (cf (m + 1)).a) := Kn.get s7.out 0 0 rfl rfl
        have ux_1 : (kal4 w6 (cf (m + 1))).cell? ⟨w6.heap.size, 1, none⟩ = some (.int .u64 (cf (m + 1)).b) := Kn.get s7.out 0 1 rfl rfl
        have ux_2 : (kal4 w6 (cf (m + 1))).cell? ⟨w6.heap.size, 2, none⟩ = some (.int .u64 (cf (m + 1)).c) := Kn.get s7.out 0 2 rfl rfl
        have ux_3 : (kal4 w6 (cf (m + 1))).cell? ⟨w6.heap.size, 3, none⟩ = some (.int .u64 (cf (m + 1)).d) := Kn.get s7.out 0 3 rfl rfl
        go_wp2_with (refine I.wp_store_eq rfl 24 _ _ rfl (w.heap.size + 1) ((m + 1) * 4) (c4 (cf (m + 1))) rfl rfl T7.out (info_c4 _) (c4_one _) ?_)
        intro w8 hw8
        have s8 : Hid (Kn w8 [(w.heap.size + 1, plR cf (m + 1 + 1) k), (w.heap.size, c4 (cf 0))]) := by
          rw [hw8.out]
          exact (plR_put (s7.out.front 1 rfl) HM.out).drop 1
        have F8 : Hid (Fr w src w8) := by
          rw [hw8.out]
          exact F7.out.put _ _ _ (Nat.le_succ _)
        have t8 : Hid (St w8 (m + 1)) := SU.out _ _ _ t7.out (by rw [hw8.out, heap_setCells_off _ _ (by have := HS.out; omega)])
        clear ux_0 ux_1 ux_2 ux_3 hw8 s7 F7 t7 T7
        go_wp2_with fail
        go_roundw
        case rel => exact ⟨m + 1, HM.out, by first | rfl | go_num, no', s8, t8, F8⟩
        case measure => simp [intOf]; have := HM.out; omega
      · have e1 : (er m != 0) = true := bne_iff_ne.2 he
        have HE : Hid (er m ≠ 0) := he
        clear he s7 t7
        go_wp2_with fail
        go_ret2
        exact ⟨_, _, rfl, F7.out, .inr ⟨m, HM.out, no.out, HE.out, rfl⟩⟩
    · have j1 : ¬ ((m + 1 : Nat) : Int) < (k : Int) := by omega
      have ek : m + 1 = k := by omega
      have s3 : Hid (Kn wr [(w.heap.size + 1, plR cf k k)]) := by
        rw [ek] at s2
        exact s2.out.drop 1
      clear s2 t2 hlt hm
      go_wp2_with fail
      go_ret2
      exact ⟨_, _, rfl, F2.out, .inl ⟨fun i hi => no.out i (by omega), rfl, _, rfl, Nat.le_succ _, s3.out⟩⟩
end Go.Proofs.YtdcpicbkemmakaaDoor
