/- The contract of sealringkeep.pieces: a text cut into pieces. -/
import Derived.Test.YtmfbdacalenfdaaHCut
import Derived.Test.YtmfbdacalenfdaaGrp15
import Derived.Test.YtmfbdacalenfdaaArr
namespace Go.Proofs.Ytmfbdacalenfdaa
open Go.RowKit
open Go.ChangeShapes Go.WideShapes Go.ChangeAt Go.Deep
set_option linter.unusedSimpArgs false
theorem uInts : Try.prog.underlying 46 = some (.slice 3) := by kernel_rfl
theorem uInt : Try.prog.underlying 3 = some (.int .i64) := by kernel_rfl
theorem cellsInt : Try.prog.cellsOf 3 = 1 := by kernel_rfl
theorem uBss : Try.prog.underlying 48 = some (.slice 22) := by kernel_rfl
theorem iBytes : (Try.prog.info? 22).map (fun i => (i.zero, i.size, i.bytes)) = some (some (.slice none 0 0), 1, 24) := by kernel_rfl
/-- The slice v holds the ints zs. -/
def Iy (w : World) (v : Value) (zs : List Int) : Prop :=
  ∃ a c, v = .slice a zs.length c ∧ zs.length ≤ c ∧ (0 < zs.length → ∃ b o, a = some ⟨b, o, none⟩ ∧ ∀ j, j < zs.length → w.cell? ⟨b, o + j, none⟩ = some (.int .i64 (zs.getD j 0)))
def lowZ (zs : List Int) : Prop := ∀ z ∈ zs, -9223372036854775808 ≤ z ∧ z ≤ 9223372036854775807
theorem Iy.up {W w1 : World} {v : Value} {xs : List Int} {B : Nat} (h : Iy W v xs) (hb : Below B W w1) (hB : W.heap.size ≤ B) : Iy w1 v xs := by
  obtain ⟨a, c, e, h1, h3⟩ := h
  refine ⟨a, c, e, h1, fun hp => ?_⟩
  obtain ⟨b, o, e2, hc⟩ := h3 hp
  exact ⟨b, o, e2, fun j hj => (hb.cell (p := ⟨b, o + j, none⟩) (Nat.lt_of_lt_of_le (lt_of_cellB (hc j hj)) hB)).trans (hc j hj)⟩
section
variable {H : Type} {enc : TypeId × Value → H} {w : World} {base : Nat} {spare : Nat → Bool} {held : Bool}
theorem is_of_trod {fuel : Nat} {u : Value} {x : DataW H × List MemPlace} (h : DataW.trod enc Try.prog w base spare held fuel 46 [u] = some x) : ∃ zs, lowZ zs ∧ Iy w u zs := by
  rcases open_ints uInts uInt cellsInt h with ⟨hcs, hx⟩ | ⟨a, len, cap, zs, hcs, _, hl, hm, hz, hx, hcell, hwz⟩
  · obtain rfl : u = .slice none 0 0 := by simpa using hcs
    exact ⟨[], by simp [lowZ], none, 0, rfl, Nat.le_refl _, fun h => absurd h (Nat.lt_irrefl _)⟩
  · obtain rfl : u = .slice (some a) len cap := by simpa using hcs
    have hle : len ≤ zs.length := by
      rw [hz]
      by_cases hs : spare a.block = true <;> simp [hs] <;> omega
    have hlen : (zs.take len).length = len := by simp; omega
    refine ⟨zs.take len, fun y hy => int_of_wf (hwz y (List.mem_of_mem_take hy)), some a, cap, by rw [hlen], by rw [hlen]; exact hl, fun hp => ?_⟩
    rw [hlen] at hp
    have h0 := hcell 0 (by omega)
    rw [Addr.add_zero'] at h0
    have hs := spotless h0
    refine ⟨a.block, a.off, congrArg some hs, fun j hj => ?_⟩
    rw [hlen] at hj
    have hc := hcell j (by omega)
    rw [hs, Addr.add_lit] at hc
    rw [hc]
    have e : (zs.take len).getD j 0 = zs.getD j 0 := by
      simp [List.getD_eq_getElem?_getD, hj]
    rw [e]
theorem ilen_of_trod {fuel n c : Nat} {a : Option Addr} {x : DataW H × List MemPlace} (h : DataW.trod enc Try.prog w base spare held fuel 46 [.slice a n c] = some x) : (x.1 = .nil ∧ n = 0) ∨ ∃ es sp, x.1 = .slice es sp ∧ es.length = n := by
  rcases open_ints uInts uInt cellsInt h with ⟨hcs, hx⟩ | ⟨a', len, cap, zs, hcs, _, hl, hm, hz, hx, hcell, hwz⟩
  · left
    simp only [List.cons.injEq, Value.slice.injEq, and_true] at hcs
    exact ⟨by rw [hx], hcs.2.1⟩
  · right
    simp only [List.cons.injEq, Value.slice.injEq, and_true] at hcs
    obtain ⟨_, rfl, rfl⟩ := hcs
    refine ⟨_, _, by rw [hx], ?_⟩
    simp only [lits, List.length_map, List.length_take, hz]
    split <;> omega
end
/-- The slice v is a row of slices that the call made. -/
def Os_ (w : World) (B : Nat) (v : Value) (us : List Value) : Prop := w.ownsRow B 22 1 v us.length us
theorem Os_.nil (w : World) (B : Nat) : Os_ w B (.slice none 0 0) [] := World.ownsRow_nil _ _ _ _
theorem Os_.up {W w1 : World} {B : Nat} {v : Value} {xs : List Value} (h : Os_ W B v xs) (hb : Below W.heap.size W w1) : Os_ w1 B v xs := by
  refine ⟨h.1, ?_⟩
  rcases h.2 with h' | ⟨g, cap, cur, e, hB, hg, rest⟩
  · exact .inl h'
  · exact .inr ⟨g, cap, cur, e, hB, (hb.block g (Array.getElem?_eq_some_iff.1 hg).1).trans hg, rest⟩
theorem Blk.of {w : World} {k : Nat} {C : Array Value} {t : TypeId} (h : w.heap[k]? = some (.cells C t (0, 0))) : Blk w k C.toList := by
  refine ⟨(Array.getElem?_eq_some_iff.1 h).1, fun j v hv => ?_, fun j => ?_⟩
  · rw [cell_of_row _ _ j C t _ h]; simpa using hv
  · unfold World.frozen?
    rw [h]
    simp
theorem Os_.form {w : World} {B : Nat} {v : Value} {xs : List Value} (h : Os_ w B v xs) (hp : 0 < xs.length) : ∃ g c L, v = .slice (some ⟨g, 0, none⟩) xs.length c ∧ B ≤ g ∧ Blk w g L ∧ ∀ j, j < xs.length → L[j]? = some (xs.getD j undef) := by
  rcases h.2 with ⟨e, e2⟩ | ⟨g, cap, cur, e, hB, hg, hn, rest⟩
  · omega
  · refine ⟨g, cap, cur.toList, e, hB, Blk.of hg, fun j hj => ?_⟩
    have h2 : w.ownsRow B 22 1 (.slice (some ⟨g, 0, none⟩) xs.length cap) xs.length xs := by rw [← e]; exact h
    have := h2.cellAt j (by omega)
    rw [cell_of_row _ _ j cur _ _ hg] at this
    simpa [List.getD_eq_getElem?_getD, hj] using this
/-- append of one slice of bytes, built on the spot, to a row of such that the call made. -/
theorem wp_appS {ops : Array Oper} {rest : List Oper} {o : Oper} {a : Act} {Q : Exit → Act → World → Prop} {w : World} (hgd : o.guard = none) (s x : Operand)
    (ho : o.op = .call { callee := .builtin .append, args := #[s, x], argTypes := #[48, 48] })
    (B : Nat) (v : Value) (xs : List Value) (W0 : World) (k : Nat) (y : Value) (hs : a.eval s = v) (hown : Os_ W0 B v xs) (hup : Below W0.heap.size W0 w) (hx : a.eval x = .slice (some ⟨k, 0, none⟩) 1 1) (hy : w.cell? ⟨k, 0, none⟩ = some y) (h1 : y.oneCell' = true)
    (hl : xs.length + 1 ≤ 5864062014805) (hB : B ≤ W0.heap.size) (h : ∀ v' w', Os_ w' B v' (xs ++ [y]) → Below B W0 w' → wpList Try.prog ops Q rest (a.put o.dst v') w') : wpList Try.prog ops Q (o :: rest) a w := by
  obtain ⟨i0, hi, hz0, hz1, hz2⟩ := info_parts iBytes
  have hs0 := hup.size
  refine wpList_append_own w hgd s x 48 ho B 22 i0 (.slice none 0 0) 1 24 uBss hi hz0 hz1 hz2 rfl (by decide) v xs.length xs hs (hown.up hup) ⟨k, 0, none⟩ 1 1 [y] hx rfl ?_ ?_ ?_ ?_ ?_ ?_
  · intro j u hj
    match j, hj with
    | 0, hj =>
      simp at hj
      subst hj
      rw [Addr.add_lit]
      exact hy
  · intro u hu
    rw [List.mem_singleton.1 hu]; exact h1
  · unfold maxLen; omega
  · omega
  · omega
  · intro v' w' hown' hg _
    refine h v' w' ?_ ?_
    · unfold Os_
      rw [List.length_append]
      exact hown'
    · refine Below.grown (hup.mono hB) hg (by omega) fun k hk => ?_
      exact ((hown.up hup).lt k hk).1
/-- The pieces of a text. -/
structure Pcs (w : World) (us : List Value) (ps : List (List Nat)) : Prop where
  len : ps.length = us.length
  at_ : ∀ j, j < us.length → By w (us.getD j undef) (ps.getD j [])
theorem Pcs.nil (w : World) : Pcs w [] [] := ⟨rfl, fun j hj => absurd hj (Nat.not_lt_zero j)⟩
theorem Pcs.snoc {w : World} {us : List Value} {ps : List (List Nat)} {u : Value} {q : List Nat} (h : Pcs w us ps) (hu : By w u q) : Pcs w (us ++ [u]) (ps ++ [q]) := by
  refine ⟨by simp [h.len], fun j hj => ?_⟩
  simp at hj
  rcases Nat.lt_or_ge j us.length with h1 | h1
  · have h2 : j < ps.length := by rw [h.len]; exact h1
    have := h.at_ j h1
    simp only [List.getD_eq_getElem?_getD, List.getElem?_append_left h1, List.getElem?_append_left h2] at this ⊢
    exact this
  · obtain rfl : j = us.length := by omega
    simp [List.getD_eq_getElem?_getD, List.getElem?_append_right, h.len]
    exact hu
/-- What pieces answers. -/
def PcsAt (W0 w w' : World) (v : Value) (p : List Nat) : Prop := ∃ us ps, Os_ w' w.heap.size v us ∧ Pcs W0 us ps ∧ ps.flatten = p ∧ 0 < us.length ∧ us.length ≤ 1048577
set_option maxRecDepth 20000 in
set_option maxHeartbeats 4000000 in
theorem pieces_fun (p : List Nat) (zp : p.length ≤ 1048576) (zs : List Int) (lz : lowZ zs) (zz : zs.length ≤ 1048576) (v u : Value) (W0 : World) (hv : By W0 v p) (w : World) (hu : Iy w u zs) :
    Calls Try.prog 19 #[v, u] w fun e w' => (∃ v', e = .returned v' ∧ PcsAt W0 w w' v' p) ∧ Below w.heap.size w w' := by
  obtain ⟨ua, uc, rfl, hlc, hcell⟩ := hu
  have HC : Hid _ := hcell
  have HV : Hid (By W0 v p) := hv
  have LZ : Hid (lowZ zs) := lz
  clear hcell hv lz hlc
  generalize hzl : zs.length = zl at *
  have HZL : Hid (zs.length = zl) := hzl
  clear hzl
  go_enter Try.func19, Try.ntmps19
  go_wp2_with fail
  go_loopw [0, 5, 10] (fun sp so i wr => ∃ (k : Nat) (r : List Nat) (us : List Value) (ps : List (List Nat)), k ≤ zl ∧ i = .int .i64 k ∧ Hid (By W0 sp r) ∧ r.length ≤ 1048576 ∧ Hid (ps.flatten ++ r = p) ∧ Hid (Pcs W0 us ps) ∧ us.length ≤ k ∧ Hid (Os_ wr w.heap.size so us) ∧ Hid (Below w.heap.size w wr)) (fun _ _ i _ => zl - (intOf i).toNat)
  case atStart => exact ⟨0, p, [], [], by omega, rfl, HV, zp, rfl, Pcs.nil W0, Nat.zero_le _, Os_.nil _ _, Below.refl _ _⟩
  case round =>
    obtain ⟨k, r, us, ps, hk, rfl, hr, zr, hf, hpc, hus, hos, hb⟩ := hrel
    obtain ⟨ra, rc, rfl⟩ := hr.out.len
    by_cases hlt : k < zl
    · obtain ⟨b, o, rfl, hc⟩ := HC.out (by omega)
      have c0 := (hb.out.cell (p := ⟨b, o + k, none⟩) (lt_of_cellB (hc k hlt))).trans (hc k hlt)
      have lz : -9223372036854775808 ≤ zs.getD k 0 ∧ zs.getD k 0 ≤ 9223372036854775807 := LZ.out _ (by
        have h := HZL.out
        rw [List.getD_eq_getElem?_getD, List.getElem?_eq_getElem (by omega)]
        exact List.getElem_mem _)
      generalize zs.getD k 0 = z at *
      clear hc
      generalize hrl : r.length = rl at *
      have HRL : Hid (r.length = rl) := hrl
      clear hrl
      by_cases hneg : z < 0
      · have t1 : decide (z < 0) = true := by simpa using hneg
        go_wp2_with fail
        go_roundw
        case rel => exact ⟨k + 1, r, us, ps, by omega, by go_num, hr, by rw [HRL.out]; exact zr, hf, hpc, by omega, hos, hb⟩
        case measure => simp [intOf]; omega
      · have t1 : decide (z < 0) = false := by simpa using hneg
        by_cases hgt : (rl : Int) < z
        · have t2 : decide ((rl : Int) < z) = true := by simpa using hgt
          go_wp2_with fail
          go_roundw
          case rel => exact ⟨k + 1, r, us, ps, by omega, by go_num, hr, by rw [HRL.out]; exact zr, hf, hpc, by omega, hos, hb⟩
          case measure => simp [intOf]; omega
        · have t2 : decide ((rl : Int) < z) = false := by simpa using hgt
          obtain ⟨n, rfl⟩ : ∃ n : Nat, z = (n : Int) := ⟨z.toNat, by omega⟩
          have hn : n ≤ rl := by omega
          clear hneg hgt
          go_wp2_with (refine wp_frontB rfl (.tmp 23) (.tmp 24) rfl ra rl rc n .i64 _ r rfl HRL.out.symm rfl rfl (by rw [HRL.out]; exact hn) W0 hr.out ?_)
          intro v3 b3
          obtain ⟨fa, fc, rfl⟩ := b3.len
          have B3 : Hid (By W0 _ (r.take n)) := b3
          clear b3
          have hc0 : Hid (∀ (C : Array Value) (t : TypeId), C = #[.slice fa (r.take n).length fc] → (wr.alloc (.cells C t)).cell? ⟨wr.heap.size, 0, none⟩ = some (.slice fa (r.take n).length fc)) := fun C t hC => by rw [cell_top rfl, hC]; rfl
          generalize (r.take n).length = fl at *
          go_wp2_with (refine wp_appS rfl (.tmp 22) (.tmp 26) rfl w.heap.size _ us wr wr.heap.size (.slice fa fl fc) rfl hos.out ((Below.refl _ _).alloc (Nat.le_refl _) _) rfl (hc0.out _ _ rfl) rfl (by omega) hb.out.size ?_)
          intro v4 w4 o4 hb4
          have O4 : Hid (Os_ w4 w.heap.size v4 (us ++ [.slice fa fl fc])) := o4
          have D4 : Hid (Below w.heap.size w w4) := hb.out.trans hb4
          clear o4 hb4 hc0
          go_wp2_with (refine wp_cutB rfl (.tmp 28) (.tmp 29) rfl ra rl rc n .i64 _ r rfl HRL.out.symm rfl rfl (by rw [HRL.out]; exact hn) W0 hr.out ?_)
          intro v5 b5
          have B5 : Hid (By W0 v5 (r.drop n)) := b5
          clear b5
          go_wp2_with fail
          go_roundw
          case rel =>
            refine ⟨k + 1, r.drop n, us ++ [.slice fa fl fc], ps ++ [r.take n], by omega, by go_num, B5, ?_, ?_, hpc.out.snoc B3.out, by simp; omega, O4, D4⟩
            · rw [List.length_drop, HRL.out]; omega
            · rw [List.flatten_append, List.append_assoc]
              simp only [List.flatten_cons, List.flatten_nil, List.append_nil, List.take_append_drop]
              exact hf
          case measure => simp [intOf]; omega
    · obtain rfl : k = zl := by omega
      generalize hrl : r.length = rl at *
      clear hlt hk
      have hc0 : Hid (∀ (C : Array Value) (t : TypeId), C = #[.slice ra rl rc] → (wr.alloc (.cells C t)).cell? ⟨wr.heap.size, 0, none⟩ = some (.slice ra rl rc)) := fun C t hC => by rw [cell_top rfl, hC]; rfl
      go_wp2_with (refine wp_appS rfl (.tmp 32) (.tmp 34) rfl w.heap.size _ us wr wr.heap.size (.slice ra rl rc) rfl hos.out ((Below.refl _ _).alloc (Nat.le_refl _) _) rfl (hc0.out _ _ rfl) rfl (by omega) hb.out.size ?_)
      intro v4 w4 o4 hb4
      have O4 : Hid (Os_ w4 w.heap.size v4 (us ++ [.slice ra rl rc])) := o4
      have D4 : Hid (Below w.heap.size w w4) := hb.out.trans hb4
      clear o4 hb4 hc0
      go_wp2_with fail
      go_ret
      refine ⟨⟨v4, rfl, us ++ [.slice ra rl rc], ps ++ [r], O4.out, hpc.out.snoc hr.out, ?_, by simp, by simp; omega⟩, D4.out⟩
      rw [List.flatten_append]
      simpa using hf.out
end Go.Proofs.Ytmfbdacalenfdaa
