/- Texts that were joined: ShIx, HPcs, ShCh, ShAnM, ShAy. -/
import Derived.Test.YtdcpicbkemmakaaDoorQShSfToShSpl
import Derived.Test.YtdcpicbkemmakaaDoorQBsMkToHRd
import Derived.Test.YtdcpicbkemmakaaDoorQArrToHOpen
import Derived.Test.YtdcpicbkemmakaaDoorQGArrToShD
import Derived.Test.YtdcpicbkemmakaaDoorQShLToShPs
import Derived.Test.YtdcpicbkemmakaaDoorQShLgToShSm
import Derived.Test.YtdcpicbkemmakaaDoorQShNsToShPi
/- slices.Index and slices.Contains of shares. -/
namespace Go.Proofs.YtdcpicbkemmakaaDoor
open Go.RowKit
attribute [local go_sem] World.cell?_alloc_some cell_alloc2 cell_alloc3 cell_alloc4 frozen?_alloc_cells frozen_out
set_option linter.unusedSimpArgs false
/-- Two shares are one. -/
def sameH (s t : Shr) : Bool := s.x == t.x && Nm.beq s.y t.y
theorem sameH_self (s : Shr) : sameH s s = true := by
  unfold sameH
  rw [Nm.beq_self, beq_self_eq_true]
  rfl
set_option maxHeartbeats 1000000 in
theorem index_nil (s : Shr) (a : Option Addr) (c : Nat) (w : World) : Calls Tryd.prog 57 #[.slice a 0 c, shV5 s] w fun e w' => e = .returned (.int .i64 (-1)) ∧ Below w.heap.size w w' := by
  have b0 : Hid (Below w.heap.size w (w.alloc (.cells #[.int .i64 s.x, .int .u64 s.y.a, .int .u64 s.y.b, .int .u64 s.y.c, .int .u64 s.y.d] 38))) := (Below.refl _ _).alloc (Nat.le_refl _) _
  go_enter Tryd.func57, Tryd.ntmps57
  go_wp2_with fail
  go_loopw [8] (fun i wr => i = .int .i64 0 ∧ Hid (Below w.heap.size w wr)) (fun _ _ => 0)
  case atStart => exact ⟨rfl, b0⟩
  case round =>
    obtain ⟨rfl, hb⟩ := hrel
    go_wp2_with fail
    go_ret
    exact ⟨rfl, hb.out⟩
set_option maxRecDepth 20000 in
set_option maxHeartbeats 2000000 in
theorem index_walk (l : List Shr) (n : Nat) (hn : l.length = n) (h20 : n ≤ 20) (s : Shr) (b o c : Nat) (w : World)
    (R1 : Hid (∀ W, Below w.heap.size w W → ∀ i t, l[i]? = some t → W.rangeAt b (o + i * 5) (shC t))) :
    Calls Tryd.prog 57 #[.slice (some ⟨b, o, none⟩) n c, shV5 s] w fun e w' => (∃ q : Int, e = .returned (.int .i64 q) ∧ (q ≥ 0 ↔ ∃ t ∈ l, sameH s t = true)) ∧ Below w.heap.size w w' := by
  have HN : Hid (l.length = n ∧ n ≤ 20) := ⟨hn, h20⟩
  clear hn h20
  have s0 : Hid (Kn (w.alloc (.cells #[.int .i64 s.x, .int .u64 s.y.a, .int .u64 s.y.b, .int .u64 s.y.c, .int .u64 s.y.d] 38)) [(w.heap.size, shC s)]) := (Kn.nil w).al (shC s) 38 rfl
  have b0 : Hid (Below w.heap.size w (w.alloc (.cells #[.int .i64 s.x, .int .u64 s.y.a, .int .u64 s.y.b, .int .u64 s.y.c, .int .u64 s.y.d] 38))) := (Below.refl _ _).alloc (Nat.le_refl _) _
  go_enter Tryd.func57, Tryd.ntmps57
  go_wp2_with fail
  go_loopw [8] (fun i wr => ∃ j : Nat, j ≤ n ∧ i = .int .i64 (j : Int) ∧ Hid (∀ i t, i < j → l[i]? = some t → sameH s t = false) ∧ Hid (Kn wr [(w.heap.size, shC s)]) ∧ Hid (Below w.heap.size w wr)) (fun i _ => n - (intOf i).toNat)
  case atStart => exact ⟨0, Nat.zero_le _, rfl, fun i t hi => absurd hi (Nat.not_lt_zero _), s0, b0⟩
  case round =>
    clear s0 b0
    obtain ⟨j, hj, rfl, no, sk, bk⟩ := hrel
    by_cases hlt : j < n
    · have i1 : (j : Int) < (n : Int) := by omega
      have i0 : (0 : Int) ≤ (j : Int) := by omega
      have j20 : (j : Int) < 20 := by have := HN.out; omega
      have HJ : Hid (j < n) := hlt
      have hl : j < l.length := by have := HN.out; omega
      obtain ⟨t, ht⟩ : ∃ t, Hid (l[j]? = some t) := ⟨l[j], List.getElem?_eq_getElem hl⟩
      obtain ⟨z, hz⟩ : ∃ z, Hid (sameH s t = z) := ⟨_, rfl⟩
      have ne : ∀ w, (binOp .eql 38 (shV5 s) (shV5 t)).run Tryd.prog w = .ok (.bool z) w := fun w => by
        rw [eqShr]
        exact congrArg (fun q => Result.ok (Value.bool q) w) hz.out
      clear hlt hj hl
      go_wp2_with fail
      have s1 : Hid (Kn wr [(w.heap.size, shC s)]) := sk
      have b1 : Hid (Below w.heap.size w wr) := bk
      clear bk sk
      refine wp_region_up (by kernel_rfl) (by kernel_rfl) (fun U hU f hf hcl => ?_)
      have r1 := fun nx => R1.out (f nx) (b1.out.trans ((hf nx).out.mono b1.out.size)) j t ht.out
      have r2 := fun nx => Kn.rng (s1.out.up (hf nx).out) 0 rfl
      try simp only [List.append_eq, List.cons_append, List.nil_append]
      repeat (first | (refine I.quiet_load rfl 38 _ rfl b (o + j * 5) rfl [.int .i64 t.x, .int .u64 t.y.a, .int .u64 t.y.b, .int .u64 t.y.c, .int .u64 t.y.d] _ (fun W hW => by obtain ⟨nx, rfl⟩ := hW; exact r1 nx) u_share rfl (info_share t) ?_; simp only [Act.put, List.setIfInBounds_toArray, List.set_cons_succ, List.set_cons_zero]) | (refine I.quiet_load rfl 38 _ rfl w.heap.size 0 rfl [.int .i64 s.x, .int .u64 s.y.a, .int .u64 s.y.b, .int .u64 s.y.c, .int .u64 s.y.d] _ (fun W hW => by obtain ⟨nx, rfl⟩ := hW; exact r2 nx) u_share rfl (info_share s) ?_; simp only [Act.put, List.setIfInBounds_toArray, List.set_cons_succ, List.set_cons_zero]) | go_big_quiet_step (first | fail))
      refine wpQuiet_nil ?_
      intro nx
      have hb2 := (hf nx).out
      clear hf hcl
      generalize f nx = w2 at hb2 ⊢
      have s2 : Hid (Kn w2 [(w.heap.size, (shC s))]) := s1.out.up hb2
      have b2 : Hid (Below w.heap.size w w2) := b1.out.trans (hb2.mono b1.out.size)
      have z2 := b2.out.size
      clear hb2 s1 b1
      clear ne
      cases z with
      | true =>
        have HE : Hid ((j : Int) ≥ 0 ↔ ∃ t ∈ l, sameH s t = true) := ⟨fun _ => ⟨t, List.mem_of_getElem? ht.out, hz.out⟩, fun _ => by omega⟩
        go_wp2_with fail
        go_ret
        exact ⟨⟨_, rfl, HE.out⟩, b2.out⟩
      | false =>
        have no' : Hid (∀ i u, i < j + 1 → l[i]? = some u → sameH s u = false) := fun i u hi hu => by
          by_cases e : i = j
          · rw [e, ht.out] at hu
            obtain rfl := Option.some.inj hu
            exact hz.out
          · exact no.out i u (by omega) hu
        go_wp2_with fail
        go_roundw
        case rel => exact ⟨j + 1, HJ.out, by go_num, no', s2, b2⟩
        case measure => simp [intOf]; have := HJ.out; omega
    · have i1 : ¬ (j : Int) < (n : Int) := by omega
      have HE : Hid ((-1 : Int) ≥ 0 ↔ ∃ t ∈ l, sameH s t = true) := ⟨fun h => absurd h (by decide), fun ⟨t, hm, he⟩ => by
        obtain ⟨i, hi, rfl⟩ := List.getElem_of_mem hm
        have := no.out i l[i] (by have := HN.out; omega) (List.getElem?_eq_getElem hi)
        rw [this] at he
        cases he⟩
      clear hlt hj
      go_wp2_with fail
      go_ret
      exact ⟨⟨_, rfl, HE.out⟩, bk.out⟩
theorem index_fun (l : List Shr) (h20 : l.length ≤ 20) (s : Shr) (v : Value) (w : World) (hv : Shs w v l) : Calls Tryd.prog 57 #[v, shV5 s] w fun e w' => (∃ q : Int, e = .returned (.int .i64 q) ∧ (q ≥ 0 ↔ ∃ t ∈ l, sameH s t = true)) ∧ Below w.heap.size w w' := by
  obtain ⟨a, c, rfl⟩ := shs_parts hv
  by_cases h0 : l.length = 0
  · rw [h0]
    refine (index_nil s a c w).mono ?_
    rintro e w' ⟨rfl, hb⟩
    have : l = [] := List.length_eq_zero_iff.1 h0
    subst this
    exact ⟨⟨-1, rfl, fun h => absurd h (by decide), fun ⟨t, hm, _⟩ => by cases hm⟩, hb⟩
  · obtain ⟨b, o, rfl, r1⟩ := hv.rows (by omega)
    exact index_walk l _ rfl h20 s b o c w r1
set_option maxHeartbeats 1000000 in
theorem contains_fun (l : List Shr) (h20 : l.length ≤ 20) (s : Shr) (v : Value) (w : World) (hv : Shs w v l) : Calls Tryd.prog 35 #[v, shV5 s] w fun e w' => (∃ q : Bool, e = .returned (.bool q) ∧ (q = true ↔ ∃ t ∈ l, sameH s t = true)) ∧ Below w.heap.size w w' := by
  obtain ⟨a, c, rfl⟩ := shs_parts hv
  have s0 : Hid (Kn (w.alloc (.cells #[.int .i64 s.x, .int .u64 s.y.a, .int .u64 s.y.b, .int .u64 s.y.c, .int .u64 s.y.d] 38)) [(w.heap.size, shC s)]) := (Kn.nil w).al (shC s) 38 rfl
  have b0 : Hid (Below w.heap.size w (w.alloc (.cells #[.int .i64 s.x, .int .u64 s.y.a, .int .u64 s.y.b, .int .u64 s.y.c, .int .u64 s.y.d] 38))) := (Below.refl _ _).alloc (Nat.le_refl _) _
  have IX : Hid _ := index_fun l h20 s (.slice a l.length c) _ (hv.up b0.out)
  clear hv h20
  generalize l.length = n at *
  go_enter Tryd.func35, Tryd.ntmps35
  go_wp2_with (refine wp_ldW rfl 38 _ rfl w.heap.size 0 rfl [.int .i64 s.x, .int .u64 s.y.a, .int .u64 s.y.b, .int .u64 s.y.c, .int .u64 s.y.d] _ (Kn.rng s0.out 0 rfl) u_share rfl (info_share s) ?_)
  refine Calls.mono IX.out ?_
  rintro e w1 ⟨⟨q, rfl, hq⟩, hb1⟩
  have b1 : Hid (Below w.heap.size w w1) := b0.out.trans (hb1.mono b0.out.size)
  have HQ : Hid _ := hq
  clear hb1 b0 s0 IX hq
  by_cases h : q ≥ 0
  · have HE := HQ.out.1 h
    go_wp2_with fail
    go_ret
    exact ⟨⟨_, rfl, fun _ => HE, fun _ => by first | rfl | simp [h]⟩, b1.out⟩
  · have HE : ¬ ∃ t ∈ l, sameH s t = true := fun hh => h (HQ.out.2 hh)
    go_wp2_with fail
    go_ret
    exact ⟨⟨_, rfl, fun hh => by first | cases hh | (exfalso; simp at hh; omega), fun hh => absurd hh HE⟩, b1.out⟩
end Go.Proofs.YtdcpicbkemmakaaDoor

/- The contract of sealringkeep.pieces: a text cut into pieces. -/
namespace Go.Proofs.YtdcpicbkemmakaaDoor
open Go.RowKit
open Go.ChangeShapes Go.WideShapes Go.ChangeAt Go.Deep
set_option linter.unusedSimpArgs false
theorem uInts : Tryd.prog.underlying 33 = some (.slice 3) := by kernel_rfl
theorem uInt : Tryd.prog.underlying 3 = some (.int .i64) := by kernel_rfl
theorem cellsInt : Tryd.prog.cellsOf 3 = 1 := by kernel_rfl
/-- The slice v holds the ints zs. -/
def Iy (w : World) (v : Value) (zs : List Int) : Prop :=
  ∃ a c, v = .slice a zs.length c ∧ zs.length ≤ c ∧ (0 < zs.length → ∃ b o, a = some ⟨b, o, none⟩ ∧ ∀ j, j < zs.length → w.cell? ⟨b, o + j, none⟩ = some (.int .i64 (zs.getD j 0)))
def lowZ (zs : List Int) : Prop := ∀ z ∈ zs, -9223372036854775808 ≤ z ∧ z ≤ 9223372036854775807
theorem Iy.up {W w1 : World} {v : Value} {xs : List Int} {B : Nat} (h : Iy W v xs) (hb : Below B W w1) (hB : W.heap.size ≤ B) : Iy w1 v xs := by
  obtain ⟨a, c, e, h1, h3⟩ := h
  refine ⟨a, c, e, h1, fun hp => ?_⟩
  obtain ⟨b, o, e2, hc⟩ := h3 hp
  exact ⟨b, o, e2, fun j hj => (hb.cell (p := ⟨b, o + j, none⟩) (Nat.lt_of_lt_of_le (lt_of_cellB (hc j hj)) hB)).trans (hc j hj)⟩
section
variable {H : Type} {enc : TypeId × Value → H} {w : World} {base : Nat} {spare : Nat → Bool} {held : Bool}
theorem is_of_trod {fuel : Nat} {u : Value} {x : DataW H × List MemPlace} (h : DataW.trod enc Tryd.prog w base spare held fuel 33 [u] = some x) : ∃ zs, lowZ zs ∧ Iy w u zs := by
  rcases open_ints uInts uInt cellsInt h with ⟨hcs, hx⟩ | ⟨a, len, cap, zs, hcs, _, hl, hm, hz, hx, hcell, hwz⟩
  · obtain rfl : u = .slice none 0 0 := by simpa using hcs
    exact ⟨[], by simp [lowZ], none, 0, rfl, Nat.le_refl _, fun h => absurd h (Nat.lt_irrefl _)⟩
  · obtain rfl : u = .slice (some a) len cap := by simpa using hcs
    have hle : len ≤ zs.length := by
      rw [hz]
      by_cases hs : spare a.block = true <;> simp [hs] <;> omega
    have hlen : (zs.take len).length = len := by simp; omega
    refine ⟨zs.take len, fun y hy => int_of_wf (hwz y (List.mem_of_mem_take hy)), some a, cap, by rw [hlen], by rw [hlen]; exact hl, fun hp => ?_⟩
    rw [hlen] at hp
    have h0 := hcell 0 (by omega)
    rw [Addr.add_zero'] at h0
    have hs := spotless h0
    refine ⟨a.block, a.off, congrArg some hs, fun j hj => ?_⟩
    rw [hlen] at hj
    have hc := hcell j (by omega)
    rw [hs, Addr.add_lit] at hc
    rw [hc]
    have e : (zs.take len).getD j 0 = zs.getD j 0 := by
      simp [List.getD_eq_getElem?_getD, hj]
    rw [e]
theorem ilen_of_trod {fuel n c : Nat} {a : Option Addr} {x : DataW H × List MemPlace} (h : DataW.trod enc Tryd.prog w base spare held fuel 33 [.slice a n c] = some x) : (x.1 = .nil ∧ n = 0) ∨ ∃ es sp, x.1 = .slice es sp ∧ es.length = n := by
  rcases open_ints uInts uInt cellsInt h with ⟨hcs, hx⟩ | ⟨a', len, cap, zs, hcs, _, hl, hm, hz, hx, hcell, hwz⟩
  · left
    simp only [List.cons.injEq, Value.slice.injEq, and_true] at hcs
    exact ⟨by rw [hx], hcs.2.1⟩
  · right
    simp only [List.cons.injEq, Value.slice.injEq, and_true] at hcs
    obtain ⟨_, rfl, rfl⟩ := hcs
    refine ⟨_, _, by rw [hx], ?_⟩
    simp only [lits, List.length_map, List.length_take, hz]
    split <;> omega
end
/-- The slice v is a row of slices that the call made. -/
def Os_ (w : World) (B : Nat) (v : Value) (us : List Value) : Prop := w.ownsRow B 25 1 v us.length us
theorem Os_.nil (w : World) (B : Nat) : Os_ w B (.slice none 0 0) [] := World.ownsRow_nil _ _ _ _
theorem Os_.up {W w1 : World} {B : Nat} {v : Value} {xs : List Value} (h : Os_ W B v xs) (hb : Below W.heap.size W w1) : Os_ w1 B v xs := by
  refine ⟨h.1, ?_⟩
  rcases h.2 with h' | ⟨g, cap, cur, e, hB, hg, rest⟩
  · exact .inl h'
  · exact .inr ⟨g, cap, cur, e, hB, (hb.block g (Array.getElem?_eq_some_iff.1 hg).1).trans hg, rest⟩
theorem Blk.of {w : World} {k : Nat} {C : Array Value} {t : TypeId} (h : w.heap[k]? = some (.cells C t (0, 0))) : Blk w k C.toList := by
  refine ⟨(Array.getElem?_eq_some_iff.1 h).1, fun j v hv => ?_, fun j => ?_⟩
  · rw [cell_of_row _ _ j C t _ h]; simpa using hv
  · unfold World.frozen?
    rw [h]
    simp
theorem Os_.form {w : World} {B : Nat} {v : Value} {xs : List Value} (h : Os_ w B v xs) (hp : 0 < xs.length) : ∃ g c L, v = .slice (some ⟨g, 0, none⟩) xs.length c ∧ B ≤ g ∧ Blk w g L ∧ ∀ j, j < xs.length → L[j]? = some (xs.getD j undef) := by
  rcases h.2 with ⟨e, e2⟩ | ⟨g, cap, cur, e, hB, hg, hn, rest⟩
  · omega
  · refine ⟨g, cap, cur.toList, e, hB, Blk.of hg, fun j hj => ?_⟩
    have h2 : w.ownsRow B 25 1 (.slice (some ⟨g, 0, none⟩) xs.length cap) xs.length xs := by rw [← e]; exact h
    have := h2.cellAt j (by omega)
    rw [cell_of_row _ _ j cur _ _ hg] at this
    simpa [List.getD_eq_getElem?_getD, hj] using this
/-- The pieces of a text. -/
structure Pcs (w : World) (us : List Value) (ps : List (List Nat)) : Prop where
  len : ps.length = us.length
  at_ : ∀ j, j < us.length → By w (us.getD j undef) (ps.getD j [])
theorem Pcs.nil (w : World) : Pcs w [] [] := ⟨rfl, fun j hj => absurd hj (Nat.not_lt_zero j)⟩
end Go.Proofs.YtdcpicbkemmakaaDoor

/- Some of a secret's shares, chosen by an order: sealringkeep.chosen. -/
namespace Go.Proofs.YtdcpicbkemmakaaDoor
open Go.RowKit
attribute [local go_sem] World.cell?_alloc_some cell_alloc2 cell_alloc3 cell_alloc4 frozen?_alloc_cells frozen_out
set_option linter.unusedSimpArgs false
/-- Chosen out of l: no two at one place, at most k. -/
def ChR (l : List Shr) (k : Nat) (m : List Shr) : Prop := (∀ s ∈ m, s ∈ l) ∧ (m.map Shr.x).Nodup ∧ m.length ≤ k
theorem ChR.nil (l : List Shr) (k : Nat) : ChR l k [] := ⟨fun s hs => absurd hs (List.not_mem_nil), by simp, Nat.zero_le _⟩
theorem ChR.add {l m : List Shr} {k : Nat} (h : ChR l k m) (hl : (l.map Shr.x).Nodup) {s : Shr} (hs : s ∈ l) (hk : m.length < k) (hn : ¬ ∃ t ∈ m, sameH s t = true) : ChR l k (m ++ [s]) := by
  refine ⟨fun t ht => ?_, ?_, by simp; omega⟩
  · rcases List.mem_append.1 ht with ht | ht
    · exact h.1 t ht
    · obtain rfl := List.mem_singleton.1 ht
      exact hs
  · rw [List.map_append, List.map_cons, List.map_nil, List.nodup_append]
    refine ⟨h.2.1, by simp, fun a ha b hb => ?_⟩
    obtain ⟨t, ht, rfl⟩ := List.mem_map.1 ha
    obtain rfl := List.mem_singleton.1 hb
    intro e
    refine hn ⟨t, ht, ?_⟩
    have htl := h.1 t ht
    obtain ⟨i, hi, rfl⟩ := List.getElem_of_mem htl
    obtain ⟨j, hj, rfl⟩ := List.getElem_of_mem hs
    have eij : i = j := by
      unfold List.Nodup at hl
      rw [List.pairwise_map, List.pairwise_iff_getElem] at hl
      rcases Nat.lt_trichotomy i j with g | g | g
      · exact absurd e (hl i j hi hj g)
      · exact g
      · exact absurd e.symm (hl j i hj hi g)
    subst eij
    exact sameH_self _
set_option maxRecDepth 20000 in
set_option maxHeartbeats 4000000 in
theorem chosen_walk (l : List Shr) (n : Nat) (hn : l.length = n) (hl : (l.map Shr.x).Nodup) (h20 : n ≤ 20) (b o cp k : Nat) (k20 : k ≤ 20) (zs : List Int) (za : zs.length ≤ 140737488351232) (zv : Value) (w : World)
    (ZV : Hid (∀ W, Below w.heap.size w W → Iy W zv zs))
    (R1 : Hid (∀ W, Below w.heap.size w W → ∀ i t, l[i]? = some t → W.rangeAt b (o + i * 5) (shC t))) :
    Calls Tryd.prog 10 #[.slice (some ⟨b, o, none⟩) n cp, zv, .int .i64 (k : Int)] w fun e w' => (∃ v m, e = .returned v ∧ Oh w' w.heap.size v m ∧ ChR l k m) ∧ Below w.heap.size w w' := by
  have HN : Hid (l.length = n ∧ n ≤ 20 ∧ k ≤ 20 ∧ zs.length ≤ 140737488351232) := ⟨hn, h20, k20, za⟩
  have HL : Hid ((l.map Shr.x).Nodup) := hl
  obtain ⟨za', zc, rfl, -, zb⟩ := id (ZV.out w (Below.refl _ _))
  obtain ⟨N, hN⟩ : ∃ N, Hid (zs.length = N) := ⟨_, rfl⟩
  have ZC : Hid (∀ W, Below w.heap.size w W → ∀ j, j < N → ∃ b o, za' = some ⟨b, o, none⟩ ∧ W.cell? ⟨b, o + j, none⟩ = some (.int .i64 (zs.getD j 0))) := fun W hW j hj => by
    obtain ⟨a', c', e, -, h⟩ := ZV.out W hW
    cases e
    obtain ⟨b', o', e, h⟩ := h (by have := hN.out; omega)
    exact ⟨b', o', e, h j (by have := hN.out; omega)⟩
  have ZL : Hid (N ≤ 140737488351232) := by have := hN.out; show _ ≤ _; omega
  rw [hN.out]
  have o0 : Hid (Oh w w.heap.size (.slice none 0 0) []) := Oh.nil w _
  clear hn hl h20 k20 za zb ZV
  go_enter Tryd.func10, Tryd.ntmps10
  go_wp2_with fail
  go_loopw [7, 12] (fun u t wr => ∃ (j : Nat) (m : List Shr), j ≤ N ∧ t = .int .i64 (j : Int) ∧ Hid (Oh wr w.heap.size u m) ∧ Hid (ChR l k m) ∧ Hid (Below w.heap.size w wr)) (fun _ t _ => N - (intOf t).toNat)
  case atStart => exact ⟨0, [], Nat.zero_le _, rfl, o0, ChR.nil l k, Below.refl _ _⟩
  case round =>
    clear o0
    obtain ⟨j, m, hj, rfl, oh, ch, bk⟩ := hrel
    obtain ⟨ua, uc, eu⟩ := shs_parts oh.out.shs
    by_cases hlt : j < N
    · have i1 : (j : Int) < (N : Int) := by omega
      have i0 : (0 : Int) ≤ (j : Int) := by omega
      have jb : (j : Int) < 140737488351232 := by have := ZL.out; omega
      have HJ : Hid (j < N) := hlt
      obtain ⟨bz, oz, rfl, cz⟩ := ZC.out wr bk.out j hlt
      generalize zs.getD j 0 = z at cz
      clear hlt hj ZC
      subst eu
      by_cases d1 : z ≥ 0
      · by_cases d2 : z < (n : Int)
        · by_cases d3 : (m.length : Int) < (k : Int)
          · obtain ⟨i, rfl⟩ : ∃ i : Nat, z = (i : Int) := ⟨z.toNat, by omega⟩
            have e0 : (0 : Int) ≤ (i : Int) := by omega
            have HI : Hid (i < n) := by show _ < _; omega
            obtain ⟨t, ht⟩ : ∃ t, Hid (l[i]? = some t) := ⟨l[i]'(by have := HN.out.1; have := HI.out; omega), List.getElem?_eq_getElem _⟩
            have HM : Hid (m.length < k ∧ m.length ≤ 20) := by constructor <;> have := HN.out <;> omega
            have r1 := R1.out wr bk.out i t ht.out
            go_wp2_with (refine wp_ldW rfl 38 _ rfl b (o + i * 5) rfl [.int .i64 t.x, .int .u64 t.y.a, .int .u64 t.y.b, .int .u64 t.y.c, .int .u64 t.y.d] _ r1 u_share rfl (info_share t) ?_)
            refine (contains_fun m HM.out.2 t _ wr oh.out.shs).mono ?_
            rintro e w1 ⟨⟨q, rfl, hq⟩, hb1⟩
            have oh1 : Hid (Oh w1 w.heap.size (.slice ua m.length uc) m) := oh.out.up hb1
            have b1 : Hid (Below w.heap.size w w1) := bk.out.trans (hb1.mono bk.out.size)
            have HQ : Hid _ := hq
            clear hb1 hq oh bk r1 cz d1 d2 d3
            cases q with
            | true =>
              clear HQ
              go_wp2_with fail
              go_roundw
              case rel => exact ⟨j + 1, m, HJ.out, by go_num, oh1, ch, b1⟩
              case measure => simp [intOf]; have := HJ.out; omega
            | false =>
              have ch2 : Hid (ChR l k (m ++ [t])) := ch.out.add HL.out (List.mem_of_getElem? ht.out) HM.out.1 fun hh => by
                have := HQ.out.2 hh
                cases this
              have r1 := R1.out w1 b1.out i t ht.out
              have ba : Below w1.heap.size w1 (w1.alloc (.cells (shC t).toArray 38)) := (Below.refl _ _).alloc (Nat.le_refl _) _
              have oh2 : Hid (Oh (w1.alloc (.cells (shC t).toArray 38)) w.heap.size (.slice ua m.length uc) m) := oh1.out.up ba
              have b2 : Hid (Below w.heap.size w (w1.alloc (.cells (shC t).toArray 38))) := b1.out.trans (ba.mono b1.out.size)
              have one : Hid (Shs (w1.alloc (.cells (shC t).toArray 38)) (.slice (some ⟨w1.heap.size, 0, none⟩) 1 1) [t]) := shs_one w1 t
              have e2 : (i : Int) < (n : Int) := by have := HI.out; omega
              clear HQ ch oh1 b1 ba
              go_wp2_with (first | refine wp_ldW rfl 38 _ rfl b (o + i * 5) rfl [.int .i64 t.x, .int .u64 t.y.a, .int .u64 t.y.b, .int .u64 t.y.c, .int .u64 t.y.d] _ r1 u_share rfl (info_share t) ?_ | refine wp_bsH rfl _ rfl t rfl ?_ | refine wp_appH rfl _ _ rfl w.heap.size _ _ m [t] rfl oh2.out rfl one.out (by have := HM.out; simp only [List.length_cons, List.length_nil]; omega) b2.out.size ?_)
              intro v4 w4 o4 hb4
              have oh4 : Hid (Oh w4 w.heap.size v4 (m ++ [t])) := o4
              have b4 : Hid (Below w.heap.size w w4) := Below.grown b2.out hb4 b2.out.size oh2.out.ge
              clear o4 hb4 oh2 b2 one r1
              go_wp2_with fail
              go_roundw
              case rel => exact ⟨j + 1, m ++ [t], HJ.out, by go_num, oh4, ch2, b4⟩
              case measure => simp [intOf]; have := HJ.out; omega
          · go_wp2_with fail
            go_roundw
            case rel => exact ⟨j + 1, m, HJ.out, by go_num, oh, ch, bk⟩
            case measure => simp [intOf]; have := HJ.out; omega
        · go_wp2_with fail
          go_roundw
          case rel => exact ⟨j + 1, m, HJ.out, by go_num, oh, ch, bk⟩
          case measure => simp [intOf]; have := HJ.out; omega
      · go_wp2_with fail
        go_roundw
        case rel => exact ⟨j + 1, m, HJ.out, by go_num, oh, ch, bk⟩
        case measure => simp [intOf]; have := HJ.out; omega
    · have i1 : ¬ (j : Int) < (N : Int) := by omega
      clear hlt hj
      subst eu
      go_wp2_with fail
      go_ret
      exact ⟨⟨_, rfl, m, oh.out, ch.out⟩, bk.out⟩
end Go.Proofs.YtdcpicbkemmakaaDoor

/- Any k of a secret's shares tell its polynomial (mathematics of ShareAny). -/
namespace Go.Proofs.YtdcpicbkemmakaaDoor
open Go.RowKit
set_option linter.unusedSimpArgs false
theorem splE_range {S : Nat} {k n : Int} {seed : List Nat} (h : splE S k n seed = 0) : 1 ≤ k ∧ k ≤ n ∧ n ≤ 20 ∧ S < Cv.ord := by
  unfold splE at h
  split at h
  · cases h
  · rename_i h1
    refine ⟨?_, ?_, ?_, ?_⟩ <;> omega
theorem splL_mem {S : Nat} {k n : Int} {seed : List Nat} (h : splE S k n seed = 0) {s : Shr} (hs : s ∈ splL S k n seed) : ∃ i, i < n.toNat ∧ s = ⟨((i + 1 : Nat) : Int), nm (pvN (cfs S seed k.toNat) (i + 1) % Cv.ord)⟩ := by
  unfold splL at hs
  rw [if_pos h] at hs
  obtain ⟨i, hi, rfl⟩ := List.mem_map.1 hs
  exact ⟨i, List.mem_range.1 hi, rfl⟩
theorem any_at {S : Nat} {k n : Int} {seed : List Nat} (h : splE S k n seed = 0) (m : List Shr) (hs : ∀ s ∈ m, s ∈ splL S k n seed) (hd : (m.map Shr.x).Nodup) (hl : m.length = k.toNat) (x : Int) (x0 : 0 ≤ x) (x1 : x ≤ 255) :
    fltN m x = 0 ∧ atM m x = nm (pvN (cfs S seed k.toNat) x.toNat % Cv.ord) := by
  have hr := splE_range h
  have hg : goodL m := ⟨fun s hm => by
    obtain ⟨i, hi, rfl⟩ := splL_mem h (hs s hm)
    refine ⟨⟨?_, ?_⟩, ?_⟩
    · show (1 : Int) ≤ ((i + 1 : Nat) : Int)
      omega
    · show ((i + 1 : Nat) : Int) ≤ 255
      omega
    · show (nm (pvN (cfs S seed k.toNat) (i + 1) % Cv.ord)).nat < Cv.ord
      rw [s_nat]
      exact Nat.mod_lt _ ord_big, hd⟩
  have hf : fltN m x = 0 := (flt_zero _ _).2 ⟨by omega, by omega, x0, x1, hg⟩
  refine ⟨hf, ?_⟩
  unfold atM
  rw [if_pos hf]
  have hp : So.IsAt (pts m) (fun x => So.ev ((cfs S seed k.toNat).map fun (a : Nat) => (a : Int)) x) := by
    refine ⟨?_, fun q hq => ?_⟩
    · have e : (pts m).length = m.length := by simp [pts]
      rw [e, hl]
      exact (So.Po.ev _).mono (by simp [cfs]; omega)
    · obtain ⟨s, hm, rfl⟩ := List.mem_map.1 hq
      obtain ⟨i, hi, rfl⟩ := splL_mem h (hs s hm)
      show So.K (So.ev ((cfs S seed k.toNat).map fun (a : Nat) => (a : Int)) ((i + 1 : Nat) : Int)) ((nm (pvN (cfs S seed k.toNat) (i + 1) % Cv.ord)).nat : Int)
      rw [pvN_ev, s_nat]
      exact (So.K_mod _).symm
  rw [atN_is hg (by omega) x.toNat hp]
  show nm (So.rd (So.ev ((cfs S seed k.toNat).map fun (a : Nat) => (a : Int)) ((x.toNat : Nat) : Int))) = _
  rw [pvN_ev, So.rd_mod]
/-- At nought it is the secret. -/
theorem any_zero {S : Nat} {k n : Int} {seed : List Nat} (h : splE S k n seed = 0) (m : List Shr) (hs : ∀ s ∈ m, s ∈ splL S k n seed) (hd : (m.map Shr.x).Nodup) (hl : m.length = k.toNat) : fltN m 0 = 0 ∧ atM m 0 = nm S := by
  have ha := any_at h m hs hd hl 0 (by decide) (by decide)
  refine ⟨ha.1, ?_⟩
  rw [ha.2, show (0 : Int).toNat = 0 from rfl, pvN_zero]
  show nm (S % Cv.ord) = nm S
  rw [Nat.mod_eq_of_lt (splE_range h).2.2.2]
/-- At its own place each share of the secret is what it is. -/
theorem any_own {S : Nat} {k n : Int} {seed : List Nat} (h : splE S k n seed = 0) (m : List Shr) (hs : ∀ s ∈ m, s ∈ splL S k n seed) (hd : (m.map Shr.x).Nodup) (hl : m.length = k.toNat) (s : Shr) (hm : s ∈ splL S k n seed) : fltN m s.x = 0 ∧ atM m s.x = s.y := by
  have hr := splE_range h
  obtain ⟨i, hi, rfl⟩ := splL_mem h hm
  exact any_at h m hs hd hl ((i + 1 : Nat) : Int) (by omega) (by show ((i + 1 : Nat) : Int) ≤ 255; omega)
end Go.Proofs.YtdcpicbkemmakaaDoor

/- ShareAny, out of what package share must keep. -/
namespace Go.Proofs.YtdcpicbkemmakaaDoor
open Go.RowKit
attribute [local go_sem] World.cell?_alloc_some cell_alloc2 cell_alloc3 cell_alloc4 frozen?_alloc_cells frozen_out
set_option linter.unusedSimpArgs false
set_option maxHeartbeats 1000000 in
theorem any_bad' (x : Nm) (k n E : Int) (hE : (E != 0) = true) (sv zv : Value) (w : World)
    (S1 : Hid (∀ W, Below w.heap.size w W → Calls Tryd.prog 7 #[N x, .int .i64 k, .int .i64 n, sv] W fun e w' => (∃ v', e = .returned (.tuple #[v', .int .i64 E]) ∧ Shs w' v' []) ∧ Below W.heap.size W w')) :
    Calls Tryd.prog 4 #[N x, .int .i64 k, .int .i64 n, sv, zv] w fun e w' => e = .returned (.bool true) ∧ Below w.heap.size w w' := by
  go_enter Tryd.func4, Tryd.ntmps4
  have s0 : Hid (Kn (kal4 w (x)) [(w.heap.size, (c4 (x)))]) := ((Kn.nil w).al (c4 (x)) 24 rfl)
  have b0 : Hid (Below w.heap.size w (kal4 w (x))) := ((Below.refl _ _).alloc (Nat.le_refl _) _)
  have ux_0 : (kal4 w (x)).cell? ⟨w.heap.size, 0, none⟩ = some (.int .u64 (x).a) := Kn.get s0.out 0 0 rfl rfl
  have ux_1 : (kal4 w (x)).cell? ⟨w.heap.size, 1, none⟩ = some (.int .u64 (x).b) := Kn.get s0.out 0 1 rfl rfl
  have ux_2 : (kal4 w (x)).cell? ⟨w.heap.size, 2, none⟩ = some (.int .u64 (x).c) := Kn.get s0.out 0 2 rfl rfl
  have ux_3 : (kal4 w (x)).cell? ⟨w.heap.size, 3, none⟩ = some (.int .u64 (x).d) := Kn.get s0.out 0 3 rfl rfl
  go_wp2_with fail
  clear ux_0 ux_1 ux_2 ux_3
  refine (S1.out _ b0.out).mono ?_
  rintro e w1 ⟨⟨v1, rfl, h1⟩, hb1⟩
  have b1 : Hid (Below w.heap.size w w1) := b0.out.trans (hb1.mono b0.out.size)
  obtain ⟨a1, c1, rfl⟩ := shs_parts h1
  clear h1 hb1 s0 b0 S1
  go_wp2_with fail
  go_ret
  exact ⟨rfl, b1.out⟩
set_option maxRecDepth 20000 in
set_option maxHeartbeats 4000000 in
theorem any_walk (x : Nm) (k n : Nat) (L : List Shr) (hL : L.length = n) (n20 : n ≤ 20) (n0 : 0 < n) (k1 : 1 ≤ k) (sv zv : Value) (w : World)
    (S1 : Hid (∀ W, Below w.heap.size w W → Calls Tryd.prog 7 #[N x, .int .i64 (k : Int), .int .i64 (n : Int), sv] W fun e w' => (∃ v', e = .returned (.tuple #[v', .int .i64 0]) ∧ Shs w' v' L) ∧ Below W.heap.size W w'))
    (CH : Hid (∀ W v, Below w.heap.size w W → Shs W v L → Calls Tryd.prog 10 #[v, zv, .int .i64 (k : Int)] W fun e w' => (∃ v m, e = .returned v ∧ Oh w' W.heap.size v m ∧ ChR L k m) ∧ Below W.heap.size W w'))
    (AZ : Hid (∀ m, ChR L k m → m.length = k → ∀ W v, Shs W v m → Calls Tryd.prog 11 #[v, .int .i64 0] W fun e w' => e = .returned (.tuple #[N x, .int .i64 0]) ∧ Below W.heap.size W w'))
    (AO : Hid (∀ m, ChR L k m → m.length = k → ∀ s ∈ L, ∀ W v, Shs W v m → Calls Tryd.prog 11 #[v, .int .i64 s.x] W fun e w' => e = .returned (.tuple #[N s.y, .int .i64 0]) ∧ Below W.heap.size W w')) :
    Calls Tryd.prog 4 #[N x, .int .i64 (k : Int), .int .i64 (n : Int), sv, zv] w fun e w' => e = .returned (.bool true) ∧ Below w.heap.size w w' := by
  have HN : Hid (L.length = n ∧ n ≤ 20 ∧ 0 < n ∧ 1 ≤ k) := ⟨hL, n20, n0, k1⟩
  clear hL n20 n0 k1
  go_enter Tryd.func4, Tryd.ntmps4
  have s0 : Hid (Kn (kal4 w (x)) [(w.heap.size, (c4 (x)))]) := ((Kn.nil w).al (c4 (x)) 24 rfl)
  have b0 : Hid (Below w.heap.size w (kal4 w (x))) := ((Below.refl _ _).alloc (Nat.le_refl _) _)
  have ux_0 : (kal4 w (x)).cell? ⟨w.heap.size, 0, none⟩ = some (.int .u64 (x).a) := Kn.get s0.out 0 0 rfl rfl
  have ux_1 : (kal4 w (x)).cell? ⟨w.heap.size, 1, none⟩ = some (.int .u64 (x).b) := Kn.get s0.out 0 1 rfl rfl
  have ux_2 : (kal4 w (x)).cell? ⟨w.heap.size, 2, none⟩ = some (.int .u64 (x).c) := Kn.get s0.out 0 2 rfl rfl
  have ux_3 : (kal4 w (x)).cell? ⟨w.heap.size, 3, none⟩ = some (.int .u64 (x).d) := Kn.get s0.out 0 3 rfl rfl
  go_wp2_with fail
  clear ux_0 ux_1 ux_2 ux_3
  refine (S1.out _ b0.out).mono ?_
  rintro e w1 ⟨⟨v1, rfl, h1⟩, hb1⟩
  have s1 : Hid (Kn w1 [(w.heap.size, c4 x)]) := s0.out.up hb1
  have b1 : Hid (Below w.heap.size w w1) := b0.out.trans (hb1.mono b0.out.size)
  obtain ⟨a1, c1, e1⟩ := shs_parts h1
  rw [HN.out.1] at e1
  subst e1
  obtain ⟨b, o, rfl, r1⟩ := h1.rows (by have := HN.out; omega)
  have H1 : Hid (Shs w1 (.slice (some ⟨b, o, none⟩) n c1) L) := h1
  have R1 : Hid (∀ W, Below w1.heap.size w1 W → ∀ i s, L[i]? = some s → W.rangeAt b (o + i * 5) (shC s)) := r1
  clear h1 r1 hb1 s0 b0 S1
  go_wp2_with fail
  refine (CH.out w1 _ b1.out H1.out).mono ?_
  rintro e w2 ⟨⟨v2, m, rfl, oh, ch⟩, hb2⟩
  obtain ⟨a2, c2, rfl⟩ := shs_parts oh.shs
  have M2 : Hid (Shs w2 (.slice a2 m.length c2) m) := oh.shs
  have CC : Hid (ChR L k m) := ch
  have s2 : Hid (Kn w2 [(w.heap.size, c4 x)]) := s1.out.up hb2
  have b2 : Hid (Below w.heap.size w w2) := b1.out.trans (hb2.mono b1.out.size)
  have R2 : Hid (∀ W, Below w2.heap.size w2 W → ∀ i s, L[i]? = some s → W.rangeAt b (o + i * 5) (shC s)) := fun W hW => R1.out W (hb2.trans (hW.mono hb2.size))
  clear oh ch hb2 s1 b1 H1 R1 CH
  by_cases h1 : (m.length : Int) < (k : Int)
  · go_wp2_with fail
    go_ret
    exact ⟨rfl, b2.out⟩
  by_cases h2 : (k : Int) > 6
  · go_wp2_with fail
    go_ret
    exact ⟨rfl, b2.out⟩
  have ML : Hid (m.length = k) := by show _ = _; have := CC.out.2.2; omega
  have A0 := AZ.out m CC.out ML.out
  have A1 : Hid (∀ s ∈ L, ∀ W v, Shs W v m → Calls Tryd.prog 11 #[v, .int .i64 s.x] W fun e w' => e = .returned (.tuple #[N s.y, .int .i64 0]) ∧ Below W.heap.size W w') := AO.out m CC.out ML.out
  clear AZ AO CC
  have nx : ∀ w, (binOp .neq 24 (N x) (N x)).run Tryd.prog w = .ok (.bool false) w := fun w => by
    rw [neN, Nm.beq_self]
    rfl
  go_wp2_with fail
  refine (A0 _ _ M2.out).mono ?_
  rintro e w3 ⟨rfl, hb3⟩
  have s3 : Hid (Kn w3 [(w.heap.size, c4 x)]) := s2.out.up hb3
  have b3 : Hid (Below w.heap.size w w3) := b2.out.trans (hb3.mono b2.out.size)
  have M3 : Hid (Shs w3 (.slice a2 m.length c2) m) := M2.out.up hb3
  have R3 : Hid (∀ W, Below w3.heap.size w3 W → ∀ i s, L[i]? = some s → W.rangeAt b (o + i * 5) (shC s)) := fun W hW => R2.out W (hb3.trans (hW.mono hb3.size))
  clear hb3 s2 b2 M2 R2 A0
  have b3x := b3
  have s4 : Hid (Kn (kal4 w3 (x)) [(w3.heap.size, (c4 (x))), (w.heap.size, (c4 (x)))]) := s3.out.al (c4 (x)) 24 rfl
  have b4 : Hid (Below w.heap.size w (kal4 w3 (x))) := b3.out.alloc b3.out.size _
  have z4 := b3.out.size
  clear s3 b3
  have ux_0 : (kal4 w3 (x)).cell? ⟨w.heap.size, 0, none⟩ = some (.int .u64 (x).a) := Kn.get s4.out 1 0 rfl rfl
  have ux_1 : (kal4 w3 (x)).cell? ⟨w.heap.size, 1, none⟩ = some (.int .u64 (x).b) := Kn.get s4.out 1 1 rfl rfl
  have ux_2 : (kal4 w3 (x)).cell? ⟨w.heap.size, 2, none⟩ = some (.int .u64 (x).c) := Kn.get s4.out 1 2 rfl rfl
  have ux_3 : (kal4 w3 (x)).cell? ⟨w.heap.size, 3, none⟩ = some (.int .u64 (x).d) := Kn.get s4.out 1 3 rfl rfl
  have uy_0 : (kal4 w3 (x)).cell? ⟨w3.heap.size, 0, none⟩ = some (.int .u64 (x).a) := Kn.get s4.out 0 0 rfl rfl
  have uy_1 : (kal4 w3 (x)).cell? ⟨w3.heap.size, 1, none⟩ = some (.int .u64 (x).b) := Kn.get s4.out 0 1 rfl rfl
  have uy_2 : (kal4 w3 (x)).cell? ⟨w3.heap.size, 2, none⟩ = some (.int .u64 (x).c) := Kn.get s4.out 0 2 rfl rfl
  have uy_3 : (kal4 w3 (x)).cell? ⟨w3.heap.size, 3, none⟩ = some (.int .u64 (x).d) := Kn.get s4.out 0 3 rfl rfl
  go_wp2_with fail
  clear ux_0 ux_1 ux_2 ux_3 uy_0 uy_1 uy_2 uy_3
  have Mw : Hid (∀ W, Below w3.heap.size w3 W → Shs W (.slice a2 m.length c2) m) := fun W hW => M3.out.up hW
  have bw : Hid (Below w3.heap.size w3 (kal4 w3 x)) := (Below.refl _ _).alloc (Nat.le_refl _) _
  have bT : Hid (Below w.heap.size w w3) := b3x
  clear s4 M3 nx
  go_loopw [63] (fun t wr => ∃ j : Nat, j ≤ n ∧ t = .int .i64 (j : Int) ∧ Hid (Below w3.heap.size w3 wr)) (fun t _ => n - (intOf t).toNat)
  case atStart => exact ⟨0, Nat.zero_le _, rfl, bw⟩
  case round =>
    clear bw b4
    obtain ⟨j, hj, rfl, bk⟩ := hrel
    by_cases hlt : j < n
    · have i1 : (j : Int) < (n : Int) := by omega
      have i0 : (0 : Int) ≤ (j : Int) := by omega
      have j20 : (j : Int) < 20 := by have := HN.out; omega
      have HJ : Hid (j < n) := hlt
      obtain ⟨s, hs⟩ : ∃ s, Hid (L[j]? = some s) := ⟨L[j]'(by have := HN.out.1; omega), List.getElem?_eq_getElem _⟩
      have c2' : Hid (wr.rangeAt b (o + j * 5) (shC s)) := R3.out _ bk.out j s hs.out
      have c3' : Hid ((wr.alloc (.cells shZ.toArray 38)).rangeAt b (o + j * 5) (shC s)) := R3.out _ (bk.out.alloc bk.out.size _) j s hs.out
      have s5 : Hid (Kn (wr.alloc (.cells #[.int .i64 s.x, .int .u64 s.y.a, .int .u64 s.y.b, .int .u64 s.y.c, .int .u64 s.y.d] 38)) [(wr.heap.size, shC s)]) := (Kn.nil wr).al (shC s) 38 rfl
      have b5 : Hid (Below w3.heap.size w3 (wr.alloc (.cells #[.int .i64 s.x, .int .u64 s.y.a, .int .u64 s.y.b, .int .u64 s.y.c, .int .u64 s.y.d] 38))) := bk.out.alloc bk.out.size _
      have ux := Kn.get s5.out 0 0 rfl (rfl : (shC s)[0]? = some (.int .i64 s.x))
      have ny : ∀ w, (binOp .neq 24 (N s.y) (N s.y)).run Tryd.prog w = .ok (.bool false) w := fun w => by
        rw [neN, Nm.beq_self]
        rfl
      have AT := A1.out s (List.mem_of_getElem? hs.out)
      clear hlt hj bk
      go_wp2_with (first | simp only [zero_share] | refine wp_ldW rfl 38 _ rfl b (o + j * 5) rfl [.int .i64 s.x, .int .u64 s.y.a, .int .u64 s.y.b, .int .u64 s.y.c, .int .u64 s.y.d] _ (by first | exact c2'.out | exact c3'.out) u_share rfl (info_share s) ?_)
      refine (AT _ _ (Mw.out _ b5.out)).mono ?_
      rintro e w6 ⟨rfl, hb6⟩
      have s6 : Hid (Kn w6 [(wr.heap.size, shC s)]) := s5.out.up hb6
      have b6 : Hid (Below w3.heap.size w3 w6) := b5.out.trans (hb6.mono b5.out.size)
      clear ux hb6 s5 b5 c2' c3' AT
      have s7 : Hid (Kn (kal4 w6 s.y) [(w6.heap.size, c4 s.y), (wr.heap.size, shC s)]) := s6.out.al (c4 s.y) 24 rfl
      have b7 : Hid (Below w3.heap.size w3 (kal4 w6 s.y)) := b6.out.alloc b6.out.size _
      have k0 := Kn.get s7.out 0 0 rfl rfl
      have k1 := Kn.get s7.out 0 1 rfl rfl
      have k2 := Kn.get s7.out 0 2 rfl rfl
      have k3 := Kn.get s7.out 0 3 rfl rfl
      have g1 := Kn.get s7.out 1 1 rfl (rfl : (shC s)[1]? = some (.int .u64 s.y.a))
      have g2 := Kn.get s7.out 1 2 rfl (rfl : (shC s)[2]? = some (.int .u64 s.y.b))
      have g3 := Kn.get s7.out 1 3 rfl (rfl : (shC s)[3]? = some (.int .u64 s.y.c))
      have g4 := Kn.get s7.out 1 4 rfl (rfl : (shC s)[4]? = some (.int .u64 s.y.d))
      clear s6 b6
      go_wp2_with fail
      clear k0 k1 k2 k3 g1 g2 g3 g4 ny s7
      go_roundw
      case rel => exact ⟨j + 1, HJ.out, by go_num, b7⟩
      case measure => simp [intOf]; have := HJ.out; omega
    · have i1 : ¬ (j : Int) < (n : Int) := by omega
      have b9 : Hid (Below w.heap.size w wr) := bT.out.trans (bk.out.mono bT.out.size)
      clear hlt hj bk
      go_wp2_with fail
      go_ret
      exact ⟨rfl, b9.out⟩
theorem splL_ok {S : Nat} {k n : Int} {seed : List Nat} (h : splE S k n seed = 0) : (∀ s ∈ splL S k n seed, s.ok) ∧ ((splL S k n seed).map Shr.x).Nodup := by
  have hr := splE_range h
  refine ⟨fun s hs => ?_, ?_⟩
  · obtain ⟨i, hi, rfl⟩ := splL_mem h hs
    exact ⟨⟨by show (-9223372036854775808 : Int) ≤ ((i + 1 : Nat) : Int); omega, by show ((i + 1 : Nat) : Int) ≤ 9223372036854775807; omega⟩, nm_ok _⟩
  · unfold splL
    rw [if_pos h, List.map_map]
    unfold List.Nodup
    rw [List.pairwise_map]
    refine List.Pairwise.imp ?_ (List.nodup_range (n := n.toNat))
    intro a b hab he
    have he : ((a + 1 : Nat) : Int) = ((b + 1 : Nat) : Int) := he
    exact hab (by omega)
theorem shareAny_of (SP : SplitC) (AT : AtC) (x : Nm) (ox : x.ok) (k n : Int) (hk : -9223372036854775808 ≤ k ∧ k ≤ 9223372036854775807) (hn : -9223372036854775808 ≤ n ∧ n ≤ 9223372036854775807) (seed : List Nat) (ls : ∀ y ∈ seed, y < 256) (zs : seed.length ≤ 500000000000000) (q : List Int) (zq : q.length ≤ 140737488351232) (sv zv : Value) (w : World) (hs : By w sv seed) (hz : Iy w zv q) (hK : KTab w) :
    Calls Tryd.prog 4 #[N x, .int .i64 k, .int .i64 n, sv, zv] w fun e w' => e = .returned (.bool true) ∧ Below w.heap.size w w' := by
  have S1 : ∀ W, Below w.heap.size w W → _ := fun W hW => SP x ox k n hk hn seed ls zs sv W (hs.up hW (Nat.le_refl _)) (hK.up hW hK.pos)
  by_cases h : splE x.nat k n seed = 0
  · have hr := splE_range h
    obtain ⟨kn, rfl⟩ : ∃ kn : Nat, k = (kn : Int) := ⟨k.toNat, by omega⟩
    obtain ⟨nn, rfl⟩ : ∃ nn : Nat, n = (nn : Int) := ⟨n.toNat, by omega⟩
    have hl := splL_len h
    rw [Int.toNat_natCast] at hl
    have ho := splL_ok h
    rw [h] at S1
    have ex : nm x.nat = x := (Nm.eq_nm ox rfl).symm
    refine any_walk x kn nn (splL x.nat kn nn seed) hl (by omega) (by omega) (by omega) sv zv w S1 ?_ ?_ ?_
    · intro W v hW hv
      obtain ⟨a, c, rfl⟩ := shs_parts hv
      rw [hl] at hv ⊢
      obtain ⟨b, o, rfl, r1⟩ := hv.rows (by omega)
      exact chosen_walk _ nn hl ho.2 (by omega) b o c kn (by omega) q zq zv W (fun W' hW' => hz.up (hW.trans (hW'.mono hW.size)) (Nat.le_refl _)) r1
    · intro m hm hml W v hv
      have ha := any_zero h m hm.1 hm.2.1 (by rw [Int.toNat_natCast]; exact hml)
      have := AT m (fun s hs => ho.1 s (hm.1 s hs)) 0 (by decide) v W hv
      rw [ha.1, ha.2, ex] at this
      exact this
    · intro m hm hml s hs W v hv
      have ha := any_own h m hm.1 hm.2.1 (by rw [Int.toNat_natCast]; exact hml) s hs
      have := AT m (fun s hs => ho.1 s (hm.1 s hs)) s.x (ho.1 s hs).1 v W hv
      rw [ha.1, ha.2] at this
      exact this
  · have e : splL x.nat k n seed = [] := if_neg h
    rw [e] at S1
    exact any_bad' x k n _ (bne_iff_ne.2 (by omega)) sv zv w S1
end Go.Proofs.YtdcpicbkemmakaaDoor
