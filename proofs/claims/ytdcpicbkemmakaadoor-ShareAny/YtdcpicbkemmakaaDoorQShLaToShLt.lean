/- Texts that were joined: ShLa, ShLt. -/
import Derived.Test.YtdcpicbkemmakaaDoorQShLToShPs
import Derived.Test.YtdcpicbkemmakaaDoorQGArrToShD
import Derived.Test.YtdcpicbkemmakaaDoorQKnTToShLw
/- Package share, as it landed: areShares' walk. -/
namespace Go.Proofs.YtdcpicbkemmakaaDoor
open Go.RowKit
attribute [local go_sem] World.cell?_alloc_some cell_alloc2 cell_alloc3 cell_alloc4 frozen?_alloc_cells frozen_out
set_option linter.unusedSimpArgs false
/-- Which places are taken, as a row. -/
def snL (f : Nat → Bool) : List Value := (List.range 256).map fun k => .bool (f k)
def snZ : List Value := List.replicate 256 (.bool false)
theorem zero_seen (w : World) : (zeroValue 90).run Tryd.prog w = .ok (.agg snZ.toArray) w := I.zero_of (by kernel_rfl) w
theorem snL_length (f : Nat → Bool) : (snL f).length = 256 := by rw [snL, List.length_map, List.length_range]
theorem snL_get (f : Nat → Bool) (x : Nat) (hx : x < 256) : (snL f)[x]? = some (.bool (f x)) := by
  rw [snL, List.getElem?_map, List.getElem?_range hx]
  rfl
theorem snL_set (f : Nat → Bool) (x : Nat) : (snL f).set x (.bool true) = snL (fun k => f k || x == k) := by
  refine List.ext_getElem (by rw [List.length_set, snL_length, snL_length]) fun i h1 h2 => ?_
  rw [List.getElem_set]
  simp only [snL, List.getElem_map, List.getElem_range]
  by_cases h : x = i
  · rw [if_pos h, h]
    simp
  · rw [if_neg h]
    have : (x == i) = false := beq_eq_false_iff_ne.2 h
    rw [this, Bool.or_false]
/-- Taken by those ahead. -/
def snF (X : Nat → Int) (j k : Nat) : Bool := (List.range j).any fun i => X i == (k : Int)
theorem snF_zero (X : Nat → Int) : snL (snF X 0) = snZ := by
  unfold snL snF snZ
  simp only [List.range_zero, List.any_nil]
  rw [List.map_const', List.length_range]
theorem snF_succ (X : Nat → Int) (j x : Nat) (h : X j = (x : Int)) : (fun k => snF X j k || x == k) = snF X (j + 1) := by
  funext k
  unfold snF
  rw [List.range_succ, List.any_append, List.any_cons, List.any_nil, Bool.or_false, h]
  congr 1
  by_cases e : x = k
  · rw [e, beq_self_eq_true, beq_self_eq_true]
  · rw [beq_eq_false_iff_ne.2 e, beq_eq_false_iff_ne.2 (by omega)]
theorem snF_iff (X : Nat → Int) (j k : Nat) : snF X j k = true ↔ ∃ i, i < j ∧ X i = (k : Int) := by
  unfold snF
  rw [List.any_eq_true]
  constructor
  · rintro ⟨i, hi, h⟩
    exact ⟨i, List.mem_range.1 hi, beq_iff_eq.1 h⟩
  · rintro ⟨i, hi, h⟩
    exact ⟨i, List.mem_range.2 hi, beq_iff_eq.2 h⟩
/-- A share that is refused. -/
def badL (X : Nat → Int) (lo : Nat → Bool) (j : Nat) : Prop := X j < 1 ∨ 255 < X j ∨ lo j = false ∨ ∃ i, i < j ∧ X i = X j
set_option maxRecDepth 20000 in
set_option maxHeartbeats 4000000 in
theorem areShares_walk (n b o cp : Nat) (n20 : n ≤ 20) (X : Nat → Int) (ys : Nat → Nm) (lo : Nat → Bool) (r : Bool) (w : World)
    (CR : Hid (∀ W, Below w.heap.size w W → ∀ i, i < n → W.rangeAt b (o + i * 5) (shC ⟨X i, ys i⟩)))
    (r1 : Hid ((∃ j, j < n ∧ badL X lo j) → r = false)) (r0 : Hid ((∀ j, j < n → ¬ badL X lo j) → r = true))
    (LO : Hid (∀ j, j < n → ∀ W, Calls Tryd.prog 21 #[N (ys j)] W fun e w' => e = .returned (.bool (lo j)) ∧ Below W.heap.size W w')) :
    Calls Tryd.prog 36 #[.slice (some ⟨b, o, none⟩) n cp] w fun e w' => e = .returned (.bool r) ∧ Below w.heap.size w w' := by
  have N20 : Hid (n ≤ 20) := n20
  clear n20
  go_enter Tryd.func36, Tryd.ntmps36
  have s0 : Hid (Kn (w.alloc (.cells snZ.toArray 90)) [(w.heap.size, snL (snF X 0))]) := by
    rw [snF_zero]
    exact (Kn.nil w).al snZ 90 rfl
  have b0 : Hid (Below w.heap.size w (w.alloc (.cells snZ.toArray 90))) := (Below.refl _ _).alloc (Nat.le_refl _) _
  go_wp2_with (simp only [zero_seen])
  go_loopw [8] (fun t wr => ∃ j : Nat, j ≤ n ∧ t = .int .i64 (j : Int) ∧ Hid (∀ i, i < j → ¬ badL X lo i) ∧ Hid (Kn wr [(w.heap.size, snL (snF X j))]) ∧ Hid (Below w.heap.size w wr)) (fun t _ => n - (intOf t).toNat)
  case atStart => exact ⟨0, Nat.zero_le _, rfl, fun i hi => absurd hi (Nat.not_lt_zero _), s0, b0⟩
  case round =>
    clear s0 b0
    obtain ⟨j, hj, rfl, gk, sk, bk⟩ := hrel
    by_cases hlt : j < n
    · have j1 : (j : Int) < (n : Int) := by omega
      have j0 : (0 : Int) ≤ (j : Int) := by omega
      have j20 : (j : Int) < 20 := by have := N20.out; omega
      have HJ : Hid (j < n) := hlt
      obtain ⟨xj, hxj⟩ : ∃ z, Hid (X j = z) := ⟨_, rfl⟩
      have bd : Hid (badL X lo j → r = false) := fun h => r1.out ⟨j, HJ.out, h⟩
      clear hlt hj
      have c2 : Hid (wr.rangeAt b (o + j * 5) (shC ⟨xj, ys j⟩)) := by rw [← hxj.out]; exact CR.out _ bk.out j HJ.out
      have c3 : Hid ((wr.alloc (.cells shZ.toArray 38)).rangeAt b (o + j * 5) (shC ⟨xj, ys j⟩)) := by rw [← hxj.out]; exact CR.out _ (bk.out.alloc bk.out.size _) j HJ.out
      have kn := sk.out.al (shC ⟨xj, ys j⟩) 38 rfl
      have s5 : Hid (Kn (wr.alloc (.cells #[.int .i64 xj, .int .u64 (ys j).a, .int .u64 (ys j).b, .int .u64 (ys j).c, .int .u64 (ys j).d] 38)) [(wr.heap.size, shC ⟨xj, ys j⟩), (w.heap.size, snL (snF X j))]) := kn
      have b5 : Hid (Below w.heap.size w (wr.alloc (.cells #[.int .i64 xj, .int .u64 (ys j).a, .int .u64 (ys j).b, .int .u64 (ys j).c, .int .u64 (ys j).d] 38))) := bk.out.alloc bk.out.size _
      clear kn sk bk
      by_cases d1 : xj < 1
      · have e1 := bd.out (.inl (by rw [hxj.out]; exact d1))
        clear bd s5
        go_wp2_with (first | simp only [zero_share] | refine wp_ldW rfl 38 _ rfl b (o + j * 5) rfl [.int .i64 xj, .int .u64 (ys j).a, .int .u64 (ys j).b, .int .u64 (ys j).c, .int .u64 (ys j).d] _ (by first | exact c2.out | exact c3.out) u_share rfl (info_share ⟨xj, ys j⟩) ?_)
        go_ret
        exact ⟨by first | rfl | (rw [e1]; rfl), b5.out⟩
      have D1 : Hid (¬ xj < 1) := d1
      by_cases d2 : xj > 255
      · have e1 := bd.out (.inr (.inl (by rw [hxj.out]; exact d2)))
        clear bd s5
        go_wp2_with (first | simp only [zero_share] | refine wp_ldW rfl 38 _ rfl b (o + j * 5) rfl [.int .i64 xj, .int .u64 (ys j).a, .int .u64 (ys j).b, .int .u64 (ys j).c, .int .u64 (ys j).d] _ (by first | exact c2.out | exact c3.out) u_share rfl (info_share ⟨xj, ys j⟩) ?_)
        go_ret
        exact ⟨by first | rfl | (rw [e1]; rfl), b5.out⟩
      obtain ⟨x, rfl⟩ : ∃ x : Nat, xj = (x : Int) := ⟨xj.toNat, by omega⟩
      have HX : Hid (1 ≤ x ∧ x ≤ 255) := by constructor <;> omega
      have x0 : (0 : Int) ≤ (x : Int) := by omega
      have x1 : (x : Int) < 256 := by omega
      have gx := Kn.get s5.out 1 x rfl (snL_get _ x (by omega))
      by_cases d3 : snF X j x = true
      · have e1 := bd.out (.inr (.inr (.inr (by rw [hxj.out]; exact (snF_iff X j x).1 d3))))
        rw [d3] at gx
        clear bd s5
        go_wp2_with (first | simp only [zero_share] | refine wp_ldW rfl 38 _ rfl b (o + j * 5) rfl [.int .i64 (x : Int), .int .u64 (ys j).a, .int .u64 (ys j).b, .int .u64 (ys j).c, .int .u64 (ys j).d] _ (by first | exact c2.out | exact c3.out) u_share rfl (info_share ⟨(x : Int), ys j⟩) ?_)
        go_ret
        exact ⟨by first | rfl | (rw [e1]; rfl), b5.out⟩
      have D3 : Hid (snF X j x = false) := by show _ = _; simpa using d3
      rw [D3.out] at gx
      go_wp2_with (first | simp only [zero_share] | refine wp_ldW rfl 38 _ rfl b (o + j * 5) rfl [.int .i64 (x : Int), .int .u64 (ys j).a, .int .u64 (ys j).b, .int .u64 (ys j).c, .int .u64 (ys j).d] _ (by first | exact c2.out | exact c3.out) u_share rfl (info_share ⟨(x : Int), ys j⟩) ?_)
      clear gx c2 c3
      refine (LO.out j HJ.out _).mono ?_
      rintro e w6 ⟨rfl, hb6⟩
      have s6 : Hid (Kn w6 [(wr.heap.size, shC ⟨(x : Int), ys j⟩), (w.heap.size, snL (snF X j))]) := s5.out.up hb6
      have b6 : Hid (Below w.heap.size w w6) := b5.out.trans (hb6.mono b5.out.size)
      clear hb6 s5 b5
      obtain ⟨t, ht⟩ : ∃ t, Hid (lo j = t) := ⟨_, rfl⟩
      rw [ht.out]
      cases t with
      | false =>
        have e1 := bd.out (.inr (.inr (.inl ht.out)))
        clear bd s6
        go_wp2_with fail
        go_ret
        exact ⟨by first | rfl | (rw [e1]; rfl), b6.out⟩
      | true =>
        have gk' : Hid (∀ i, i < j + 1 → ¬ badL X lo i) := fun i hi => by
          by_cases e : i = j
          · rw [e]
            rintro (h | h | h | h)
            · rw [hxj.out] at h; have := HX.out; omega
            · rw [hxj.out] at h; have := HX.out; omega
            · rw [ht.out] at h; cases h
            · rw [hxj.out] at h; have := (snF_iff X j x).2 h; rw [D3.out] at this; cases this
          · exact gk.out i (by omega)
        have cx := Kn.get s6.out 1 x rfl (snL_get _ x (by have := HX.out; omega))
        have zx := Kn.fz s6.out 1 rfl
        have ux := Kn.get s6.out 0 0 rfl (rfl : (shC ⟨(x : Int), ys j⟩)[0]? = some (.int .i64 (x : Int)))
        have s7 : Hid (Kn (w6.setCell ⟨w.heap.size, x, none⟩ (.bool true)) [(w.heap.size, snL (snF X (j + 1)))]) := by
          have := (Kn.set (L := [(wr.heap.size, shC ⟨(x : Int), ys j⟩)]) (s6.out.front 1 rfl) x (.bool true) (by rw [snL_length]; have := HX.out; omega)).drop 1
          rw [snL_set, snF_succ X j x hxj.out] at this
          exact this
        have b7 : Hid (Below w.heap.size w (w6.setCell ⟨w.heap.size, x, none⟩ (.bool true))) := b6.out.setCell (p := ⟨w.heap.size, x, none⟩) (Nat.le_refl _) _
        clear s6 b6 gk bd
        go_wp2_with fail
        clear cx zx ux
        go_roundw
        case rel => exact ⟨j + 1, HJ.out, by go_num, gk', s7, b7⟩
        case measure => simp [intOf]; have := HJ.out; omega
    · have j1 : ¬ (j : Int) < (n : Int) := by omega
      have e1 := r0.out fun i hi => gk.out i (by omega)
      clear hlt hj
      go_wp2_with fail
      go_ret
      exact ⟨by first | rfl | (rw [e1]; rfl), bk.out⟩
end Go.Proofs.YtdcpicbkemmakaaDoor

/- Package share, as it landed: At's walk. -/
namespace Go.Proofs.YtdcpicbkemmakaaDoor
open Go.RowKit
attribute [local go_sem] World.cell?_alloc_some cell_alloc2 cell_alloc3 cell_alloc4 frozen?_alloc_cells frozen_out
set_option linter.unusedSimpArgs false
set_option maxHeartbeats 1000000 in
theorem at_large (a : Option Addr) (n c : Nat) (hn : 20 < n) (x : Int) (w : World) : Calls Tryd.prog 11 #[.slice a n c, .int .i64 x] w fun e w' => e = .returned (.tuple #[N ⟨0, 0, 0, 0⟩, .int .i64 2]) ∧ Below w.heap.size w w' := by
  have g : (n : Int) > 20 := by omega
  clear hn
  go_enter Tryd.func11, Tryd.ntmps11
  have s0 : Hid (Kn (kz4 w) [(w.heap.size, zz4)]) := ((Kn.nil w).al zz4 24 rfl)
  have b0 : Hid (Below w.heap.size w (kz4 w)) := ((Below.refl _ _).alloc (Nat.le_refl _) _)
  go_wp2_with fail
  have urr_0 : (kz4 w).cell? ⟨w.heap.size, 0, none⟩ = some (.int .u64 0) := Kn.get s0.out 0 0 rfl rfl
  have urr_1 : (kz4 w).cell? ⟨w.heap.size, 1, none⟩ = some (.int .u64 0) := Kn.get s0.out 0 1 rfl rfl
  have urr_2 : (kz4 w).cell? ⟨w.heap.size, 2, none⟩ = some (.int .u64 0) := Kn.get s0.out 0 2 rfl rfl
  have urr_3 : (kz4 w).cell? ⟨w.heap.size, 3, none⟩ = some (.int .u64 0) := Kn.get s0.out 0 3 rfl rfl
  refine bodyPost_ret (v := .tuple #[N ⟨0, 0, 0, 0⟩, .int .i64 2]) ?_ rfl ⟨rfl, b0.out⟩
  show (results Tryd.f11 _).run Tryd.prog (kz4 w) = .ok _ (kz4 w)
  clear s0 b0
  generalize (kz4 w) = W9 at *
  simp [results, Tryd.results11, go_sem, urr_0, urr_1, urr_2, urr_3]
set_option maxHeartbeats 1000000 in
theorem at_none (a : Option Addr) (c : Nat) (x : Int) (w : World) : Calls Tryd.prog 11 #[.slice a 0 c, .int .i64 x] w fun e w' => e = .returned (.tuple #[N ⟨0, 0, 0, 0⟩, .int .i64 1]) ∧ Below w.heap.size w w' := by
  go_enter Tryd.func11, Tryd.ntmps11
  have s0 : Hid (Kn (kz4 w) [(w.heap.size, zz4)]) := ((Kn.nil w).al zz4 24 rfl)
  have b0 : Hid (Below w.heap.size w (kz4 w)) := ((Below.refl _ _).alloc (Nat.le_refl _) _)
  go_wp2_with fail
  have urr_0 : (kz4 w).cell? ⟨w.heap.size, 0, none⟩ = some (.int .u64 0) := Kn.get s0.out 0 0 rfl rfl
  have urr_1 : (kz4 w).cell? ⟨w.heap.size, 1, none⟩ = some (.int .u64 0) := Kn.get s0.out 0 1 rfl rfl
  have urr_2 : (kz4 w).cell? ⟨w.heap.size, 2, none⟩ = some (.int .u64 0) := Kn.get s0.out 0 2 rfl rfl
  have urr_3 : (kz4 w).cell? ⟨w.heap.size, 3, none⟩ = some (.int .u64 0) := Kn.get s0.out 0 3 rfl rfl
  refine bodyPost_ret (v := .tuple #[N ⟨0, 0, 0, 0⟩, .int .i64 1]) ?_ rfl ⟨rfl, b0.out⟩
  show (results Tryd.f11 _).run Tryd.prog (kz4 w) = .ok _ (kz4 w)
  clear s0 b0
  generalize (kz4 w) = W9 at *
  simp [results, Tryd.results11, go_sem, urr_0, urr_1, urr_2, urr_3]
set_option maxHeartbeats 1000000 in
theorem at_less (a : Option Addr) (n c : Nat) (hn : n ≤ 20) (h0 : n ≠ 0) (x : Int) (hx : x < 0) (w : World) : Calls Tryd.prog 11 #[.slice a n c, .int .i64 x] w fun e w' => e = .returned (.tuple #[N ⟨0, 0, 0, 0⟩, .int .i64 1]) ∧ Below w.heap.size w w' := by
  have g20 : ¬ (n : Int) > 20 := by omega
  have z0 : ((n : Int) == 0) = false := by rw [beq_eq_false_iff_ne]; omega
  clear hn h0
  go_enter Tryd.func11, Tryd.ntmps11
  have s0 : Hid (Kn (kz4 w) [(w.heap.size, zz4)]) := ((Kn.nil w).al zz4 24 rfl)
  have b0 : Hid (Below w.heap.size w (kz4 w)) := ((Below.refl _ _).alloc (Nat.le_refl _) _)
  go_wp2_with fail
  have urr_0 : (kz4 w).cell? ⟨w.heap.size, 0, none⟩ = some (.int .u64 0) := Kn.get s0.out 0 0 rfl rfl
  have urr_1 : (kz4 w).cell? ⟨w.heap.size, 1, none⟩ = some (.int .u64 0) := Kn.get s0.out 0 1 rfl rfl
  have urr_2 : (kz4 w).cell? ⟨w.heap.size, 2, none⟩ = some (.int .u64 0) := Kn.get s0.out 0 2 rfl rfl
  have urr_3 : (kz4 w).cell? ⟨w.heap.size, 3, none⟩ = some (.int .u64 0) := Kn.get s0.out 0 3 rfl rfl
  refine bodyPost_ret (v := .tuple #[N ⟨0, 0, 0, 0⟩, .int .i64 1]) ?_ rfl ⟨rfl, b0.out⟩
  show (results Tryd.f11 _).run Tryd.prog (kz4 w) = .ok _ (kz4 w)
  clear s0 b0
  generalize (kz4 w) = W9 at *
  simp [results, Tryd.results11, go_sem, urr_0, urr_1, urr_2, urr_3]
set_option maxHeartbeats 1000000 in
theorem at_more (a : Option Addr) (n c : Nat) (hn : n ≤ 20) (h0 : n ≠ 0) (x : Int) (hx : 255 < x) (w : World) : Calls Tryd.prog 11 #[.slice a n c, .int .i64 x] w fun e w' => e = .returned (.tuple #[N ⟨0, 0, 0, 0⟩, .int .i64 1]) ∧ Below w.heap.size w w' := by
  have g20 : ¬ (n : Int) > 20 := by omega
  have z0 : ((n : Int) == 0) = false := by rw [beq_eq_false_iff_ne]; omega
  have x0 : ¬ x < 0 := by omega
  have x1 : x > 255 := hx
  clear hn h0 hx
  go_enter Tryd.func11, Tryd.ntmps11
  have s0 : Hid (Kn (kz4 w) [(w.heap.size, zz4)]) := ((Kn.nil w).al zz4 24 rfl)
  have b0 : Hid (Below w.heap.size w (kz4 w)) := ((Below.refl _ _).alloc (Nat.le_refl _) _)
  go_wp2_with fail
  have urr_0 : (kz4 w).cell? ⟨w.heap.size, 0, none⟩ = some (.int .u64 0) := Kn.get s0.out 0 0 rfl rfl
  have urr_1 : (kz4 w).cell? ⟨w.heap.size, 1, none⟩ = some (.int .u64 0) := Kn.get s0.out 0 1 rfl rfl
  have urr_2 : (kz4 w).cell? ⟨w.heap.size, 2, none⟩ = some (.int .u64 0) := Kn.get s0.out 0 2 rfl rfl
  have urr_3 : (kz4 w).cell? ⟨w.heap.size, 3, none⟩ = some (.int .u64 0) := Kn.get s0.out 0 3 rfl rfl
  refine bodyPost_ret (v := .tuple #[N ⟨0, 0, 0, 0⟩, .int .i64 1]) ?_ rfl ⟨rfl, b0.out⟩
  show (results Tryd.f11 _).run Tryd.prog (kz4 w) = .ok _ (kz4 w)
  clear s0 b0
  generalize (kz4 w) = W9 at *
  simp [results, Tryd.results11, go_sem, urr_0, urr_1, urr_2, urr_3]
set_option maxHeartbeats 1000000 in
theorem at_bad (a : Option Addr) (n c : Nat) (hn : n ≤ 20) (h0 : n ≠ 0) (x : Int) (hx : 0 ≤ x ∧ x ≤ 255) (w : World)
    (AS : ∀ W, Below w.heap.size w W → Calls Tryd.prog 36 #[.slice a n c] W fun e w' => e = .returned (.bool false) ∧ Below W.heap.size W w') :
    Calls Tryd.prog 11 #[.slice a n c, .int .i64 x] w fun e w' => e = .returned (.tuple #[N ⟨0, 0, 0, 0⟩, .int .i64 1]) ∧ Below w.heap.size w w' := by
  have g20 : ¬ (n : Int) > 20 := by omega
  have z0 : ((n : Int) == 0) = false := by rw [beq_eq_false_iff_ne]; omega
  have x0 : ¬ x < 0 := by omega
  have x1 : ¬ x > 255 := by omega
  clear hn h0 hx
  go_enter Tryd.func11, Tryd.ntmps11
  have s0 : Hid (Kn (kz4 w) [(w.heap.size, zz4)]) := ((Kn.nil w).al zz4 24 rfl)
  have b0 : Hid (Below w.heap.size w (kz4 w)) := ((Below.refl _ _).alloc (Nat.le_refl _) _)
  go_wp2_with fail
  refine (AS _ b0.out).mono ?_
  rintro e w1 ⟨rfl, hb1⟩
  have s1 : Hid (Kn w1 [(w.heap.size, zz4)]) := s0.out.up hb1
  have b1 : Hid (Below w.heap.size w w1) := b0.out.trans (hb1.mono b0.out.size)
  have z1 := b1.out.size
  clear hb1 s0 b0
  have uro_0 : w1.cell? ⟨w.heap.size, 0, none⟩ = some (.int .u64 0) := Kn.get s1.out 0 0 rfl rfl
  have uro_1 : w1.cell? ⟨w.heap.size, 1, none⟩ = some (.int .u64 0) := Kn.get s1.out 0 1 rfl rfl
  have uro_2 : w1.cell? ⟨w.heap.size, 2, none⟩ = some (.int .u64 0) := Kn.get s1.out 0 2 rfl rfl
  have uro_3 : w1.cell? ⟨w.heap.size, 3, none⟩ = some (.int .u64 0) := Kn.get s1.out 0 3 rfl rfl
  have uro_z : ∀ j, w1.frozen? ⟨w.heap.size, j, none⟩ = false := Kn.fz s1.out 0 rfl
  have s2 : Hid (Kn (st4 w1 (w.heap.size) ((⟨0, 0, 0, 0⟩ : Nm))) [(w.heap.size, (c4 ((⟨0, 0, 0, 0⟩ : Nm))))]) := Kn.st4 (L := []) (s1.out.front 0 rfl) ((⟨0, 0, 0, 0⟩ : Nm))
  have b2 : Hid (Below w.heap.size w (st4 w1 (w.heap.size) ((⟨0, 0, 0, 0⟩ : Nm)))) := below_st4 b1.out (by omega)
  clear s1 b1
  go_wp2_with fail
  clear uro_0 uro_1 uro_2 uro_3 uro_z
  have urr_0 : (st4 w1 (w.heap.size) ((⟨0, 0, 0, 0⟩ : Nm))).cell? ⟨w.heap.size, 0, none⟩ = some (.int .u64 ((⟨0, 0, 0, 0⟩ : Nm)).a) := Kn.get s2.out 0 0 rfl rfl
  have urr_1 : (st4 w1 (w.heap.size) ((⟨0, 0, 0, 0⟩ : Nm))).cell? ⟨w.heap.size, 1, none⟩ = some (.int .u64 ((⟨0, 0, 0, 0⟩ : Nm)).b) := Kn.get s2.out 0 1 rfl rfl
  have urr_2 : (st4 w1 (w.heap.size) ((⟨0, 0, 0, 0⟩ : Nm))).cell? ⟨w.heap.size, 2, none⟩ = some (.int .u64 ((⟨0, 0, 0, 0⟩ : Nm)).c) := Kn.get s2.out 0 2 rfl rfl
  have urr_3 : (st4 w1 (w.heap.size) ((⟨0, 0, 0, 0⟩ : Nm))).cell? ⟨w.heap.size, 3, none⟩ = some (.int .u64 ((⟨0, 0, 0, 0⟩ : Nm)).d) := Kn.get s2.out 0 3 rfl rfl
  refine bodyPost_ret (v := .tuple #[N ⟨0, 0, 0, 0⟩, .int .i64 1]) ?_ rfl ⟨rfl, b2.out⟩
  show (results Tryd.f11 _).run Tryd.prog (st4 w1 (w.heap.size) ((⟨0, 0, 0, 0⟩ : Nm))) = .ok _ (st4 w1 (w.heap.size) ((⟨0, 0, 0, 0⟩ : Nm)))
  clear s2 b2
  generalize (st4 w1 (w.heap.size) ((⟨0, 0, 0, 0⟩ : Nm))) = W9 at *
  simp [results, Tryd.results11, go_sem, urr_0, urr_1, urr_2, urr_3]
set_option maxRecDepth 20000 in
set_option maxHeartbeats 4000000 in
theorem at_walk (n b o cp : Nat) (x : Int) (h0 : 0 < n) (n20 : n ≤ 20) (hx : 0 ≤ x ∧ x ≤ 255) (X : Nat → Int) (ys OO VV AA PP CC TT BB : Nat → Nm) (dd ans : Nm) (T0 : TT 0 = smN 0) (B0 : BB 0 = smN 1) (w : World)
    (CR : Hid (∀ W, Below w.heap.size w W → ∀ i, i < n → W.rangeAt b (o + i * 5) (shC ⟨X i, ys i⟩)))
    (AS : Hid (∀ W, Below w.heap.size w W → Calls Tryd.prog 36 #[.slice (some ⟨b, o, none⟩) n cp] W fun e w' => e = .returned (.bool true) ∧ Below W.heap.size W w'))
    (WT : Hid (∀ j, j < n → ∀ W, Below w.heap.size w W → Calls Tryd.prog 38 #[.slice (some ⟨b, o, none⟩) n cp, .int .i64 (j : Int), .int .i64 x] W fun e w' => e = .returned (.tuple #[N (OO j), N (VV j)]) ∧ Below W.heap.size W w'))
    (M1 : Hid (∀ j, j < n → ∀ W, Calls Tryd.prog 19 #[N (ys j), N (OO j)] W fun e w' => e = .returned (N (AA j)) ∧ Below W.heap.size W w'))
    (M2 : Hid (∀ j, j < n → ∀ W, Calls Tryd.prog 19 #[N (AA j), N (BB j)] W fun e w' => e = .returned (N (PP j)) ∧ Below W.heap.size W w'))
    (M3 : Hid (∀ j, j < n → ∀ W, Calls Tryd.prog 19 #[N (TT j), N (VV j)] W fun e w' => e = .returned (N (CC j)) ∧ Below W.heap.size W w'))
    (A1 : Hid (∀ j, j < n → ∀ W, Calls Tryd.prog 17 #[N (CC j), N (PP j)] W fun e w' => e = .returned (N (TT (j + 1))) ∧ Below W.heap.size W w'))
    (M4 : Hid (∀ j, j < n → ∀ W, Calls Tryd.prog 19 #[N (BB j), N (VV j)] W fun e w' => e = .returned (N (BB (j + 1))) ∧ Below W.heap.size W w'))
    (I1 : Hid (∀ W, Calls Tryd.prog 20 #[N (BB n)] W fun e w' => e = .returned (N dd) ∧ Below W.heap.size W w'))
    (M5 : Hid (∀ W, Calls Tryd.prog 19 #[N (TT n), N dd] W fun e w' => e = .returned (N ans) ∧ Below W.heap.size W w')) :
    Calls Tryd.prog 11 #[.slice (some ⟨b, o, none⟩) n cp, .int .i64 x] w fun e w' => e = .returned (.tuple #[N ans, .int .i64 0]) ∧ Below w.heap.size w w' := by
  have N20 : Hid (n ≤ 20) := n20
  have g20 : ¬ (n : Int) > 20 := by omega
  have z0 : ((n : Int) == 0) = false := by rw [beq_eq_false_iff_ne]; omega
  have x0 : ¬ x < 0 := by omega
  have x1 : ¬ x > 255 := by omega
  have n0 : ∀ W, Calls Tryd.prog 37 #[.int .i64 0] W fun e w' => e = .returned (N (smN 0)) ∧ Below W.heap.size W w' := number_is 0 (by decide)
  have n1 : ∀ W, Calls Tryd.prog 37 #[.int .i64 1] W fun e w' => e = .returned (N (smN 1)) ∧ Below W.heap.size W w' := number_is 1 (by decide)
  rw [← T0] at n0
  rw [← B0] at n1
  clear h0 n20 hx T0 B0
  go_enter Tryd.func11, Tryd.ntmps11
  have s0 : Hid (Kn (kz4 w) [(w.heap.size, zz4)]) := ((Kn.nil w).al zz4 24 rfl)
  have b0 : Hid (Below w.heap.size w (kz4 w)) := ((Below.refl _ _).alloc (Nat.le_refl _) _)
  go_wp2_with fail
  refine (AS.out _ b0.out).mono ?_
  rintro e w1 ⟨rfl, hb1⟩
  have s1 : Hid (Kn w1 [(w.heap.size, zz4)]) := s0.out.up hb1
  have b1 : Hid (Below w.heap.size w w1) := b0.out.trans (hb1.mono b0.out.size)
  have z1 := b1.out.size
  clear hb1 s0 b0
  go_wp2_with fail
  clear AS g20 z0 x0 x1
  refine (n0 _).mono ?_
  rintro e w2 ⟨rfl, hb2⟩
  have s2 : Hid (Kn w2 [(w.heap.size, zz4)]) := s1.out.up hb2
  have b2 : Hid (Below w.heap.size w w2) := b1.out.trans (hb2.mono b1.out.size)
  have z2 := b2.out.size
  clear hb2 s1 b1
  go_wp2_with fail
  refine (n1 _).mono ?_
  rintro e w3 ⟨rfl, hb3⟩
  have s3 : Hid (Kn w3 [(w.heap.size, zz4)]) := s2.out.up hb3
  have b3 : Hid (Below w.heap.size w w3) := b2.out.trans (hb3.mono b2.out.size)
  have z3 := b3.out.size
  clear hb3 s2 b2
  have s4 : Hid (Kn (kal4 w3 (TT 0)) [(w3.heap.size, (c4 (TT 0))), (w.heap.size, zz4)]) := s3.out.al (c4 (TT 0)) 24 rfl
  have b4 : Hid (Below w.heap.size w (kal4 w3 (TT 0))) := b3.out.alloc b3.out.size _
  have z4 := b3.out.size
  clear s3 b3
  have s5 : Hid (Kn (kal4 (kal4 w3 (TT 0)) (BB 0)) [(w3.heap.size + 1, (c4 (BB 0))), (w3.heap.size, (c4 (TT 0))), (w.heap.size, zz4)]) := s4.out.al (c4 (BB 0)) 24 (by simp)
  have b5 : Hid (Below w.heap.size w (kal4 (kal4 w3 (TT 0)) (BB 0))) := b4.out.alloc b4.out.size _
  have z5 := b4.out.size
  clear s4 b4
  go_wp2_with fail
  have zk := z3
  clear z1 z2 z3 z4 z5 n0 n1
  go_loopw [38] (fun t wr => ∃ j : Nat, j ≤ n ∧ t = .int .i64 (j : Int) ∧ Hid (Kn wr [(w3.heap.size + 1, c4 (BB j)), (w3.heap.size, c4 (TT j)), (w.heap.size, zz4)]) ∧ Hid (Below w.heap.size w wr)) (fun t _ => n - (intOf t).toNat)
  case atStart => exact ⟨0, Nat.zero_le _, rfl, s5, b5⟩
  case round =>
    clear s5 b5
    obtain ⟨j, hj, rfl, sk, bk⟩ := hrel
    by_cases hlt : j < n
    · have j1 : (j : Int) < (n : Int) := by omega
      have j0 : (0 : Int) ≤ (j : Int) := by omega
      have j20 : (j : Int) < 20 := by have := N20.out; omega
      have HJ : Hid (j < n) := hlt
      clear hlt hj
      have c2 : Hid (wr.rangeAt b (o + j * 5) (shC ⟨X j, ys j⟩)) := CR.out _ bk.out j HJ.out
      have c3 : Hid ((wr.alloc (.cells shZ.toArray 38)).rangeAt b (o + j * 5) (shC ⟨X j, ys j⟩)) := CR.out _ (bk.out.alloc bk.out.size _) j HJ.out
      have kn := sk.out.al (shC ⟨X j, ys j⟩) 38 rfl
      have s6 : Hid (Kn (wr.alloc (.cells #[.int .i64 (X j), .int .u64 (ys j).a, .int .u64 (ys j).b, .int .u64 (ys j).c, .int .u64 (ys j).d] 38)) [(wr.heap.size, shC ⟨X j, ys j⟩), (w3.heap.size + 1, c4 (BB j)), (w3.heap.size, c4 (TT j)), (w.heap.size, zz4)]) := kn
      have b6 : Hid (Below w.heap.size w (wr.alloc (.cells #[.int .i64 (X j), .int .u64 (ys j).a, .int .u64 (ys j).b, .int .u64 (ys j).c, .int .u64 (ys j).d] 38))) := bk.out.alloc bk.out.size _
      clear kn
      have T1 := WT.out j HJ.out
      have T2 := M1.out j HJ.out
      have T3 := M2.out j HJ.out
      have T4 := M3.out j HJ.out
      have T5 := A1.out j HJ.out
      have T6 := M4.out j HJ.out
      clear WT M1 M2 M3 A1 M4 I1 M5 sk bk CR
      go_wp2_with (first | simp only [zero_share] | refine wp_ldW rfl 38 _ rfl b (o + j * 5) rfl [.int .i64 (X j), .int .u64 (ys j).a, .int .u64 (ys j).b, .int .u64 (ys j).c, .int .u64 (ys j).d] _ (by first | exact c2.out | exact c3.out) u_share rfl (info_share ⟨X j, ys j⟩) ?_)
      clear c2 c3
      refine (T1 _ b6.out).mono ?_
      rintro e w7 ⟨rfl, hb7⟩
      have s7 : Hid (Kn w7 [(wr.heap.size, (shC ⟨X j, ys j⟩)), (w3.heap.size + 1, (c4 (BB j))), (w3.heap.size, (c4 (TT j))), (w.heap.size, zz4)]) := s6.out.up hb7
      have b7 : Hid (Below w.heap.size w w7) := b6.out.trans (hb7.mono b6.out.size)
      have z7 := b7.out.size
      clear hb7 s6 b6
      have s8 : Hid (Kn (kal4 w7 (OO j)) [(w7.heap.size, (c4 (OO j))), (wr.heap.size, (shC ⟨X j, ys j⟩)), (w3.heap.size + 1, (c4 (BB j))), (w3.heap.size, (c4 (TT j))), (w.heap.size, zz4)]) := s7.out.al (c4 (OO j)) 24 rfl
      have b8 : Hid (Below w.heap.size w (kal4 w7 (OO j))) := b7.out.alloc b7.out.size _
      have z8 := b7.out.size
      clear s7 b7
      have s9 : Hid (Kn (kal4 (kal4 w7 (OO j)) (VV j)) [(w7.heap.size + 1, (c4 (VV j))), (w7.heap.size, (c4 (OO j))), (wr.heap.size, (shC ⟨X j, ys j⟩)), (w3.heap.size + 1, (c4 (BB j))), (w3.heap.size, (c4 (TT j))), (w.heap.size, zz4)]) := s8.out.al (c4 (VV j)) 24 (by simp)
      have b9 : Hid (Below w.heap.size w (kal4 (kal4 w7 (OO j)) (VV j))) := b8.out.alloc b8.out.size _
      have z9 := b8.out.size
      clear s8 b8
      go_wp2_with fail
      refine wp_region_alloc1 6 (.cells #[.int .u64 0, .int .u64 0, .int .u64 0, .int .u64 0] 24) (by kernel_rfl) (by kernel_rfl) (by kernel_rfl) (by kernel_rfl) (by decide) (fun _ _ d _ _ h => by cases d <;> exact h) rfl rfl (fun _ _ => by kernel_rfl) ?_
      apply Exists.intro
      refine ⟨fun U hU f hf hcl => ?_, fun k10 w10 hb10 hk10 hc10 => ?_⟩
      · skip
        have uover_0 := fun nx => (Kn.get (s9.out.up (hf nx).out) 1 0 rfl rfl : (f nx).cell? ⟨w7.heap.size, 0, none⟩ = some (.int .u64 (OO j).a))
        have uover_1 := fun nx => (Kn.get (s9.out.up (hf nx).out) 1 1 rfl rfl : (f nx).cell? ⟨w7.heap.size, 1, none⟩ = some (.int .u64 (OO j).b))
        have uover_2 := fun nx => (Kn.get (s9.out.up (hf nx).out) 1 2 rfl rfl : (f nx).cell? ⟨w7.heap.size, 2, none⟩ = some (.int .u64 (OO j).c))
        have uover_3 := fun nx => (Kn.get (s9.out.up (hf nx).out) 1 3 rfl rfl : (f nx).cell? ⟨w7.heap.size, 3, none⟩ = some (.int .u64 (OO j).d))
        have ubottom_0 := fun nx => (Kn.get (s9.out.up (hf nx).out) 3 0 rfl rfl : (f nx).cell? ⟨w3.heap.size + 1, 0, none⟩ = some (.int .u64 (BB j).a))
        have ubottom_1 := fun nx => (Kn.get (s9.out.up (hf nx).out) 3 1 rfl rfl : (f nx).cell? ⟨w3.heap.size + 1, 1, none⟩ = some (.int .u64 (BB j).b))
        have ubottom_2 := fun nx => (Kn.get (s9.out.up (hf nx).out) 3 2 rfl rfl : (f nx).cell? ⟨w3.heap.size + 1, 2, none⟩ = some (.int .u64 (BB j).c))
        have ubottom_3 := fun nx => (Kn.get (s9.out.up (hf nx).out) 3 3 rfl rfl : (f nx).cell? ⟨w3.heap.size + 1, 3, none⟩ = some (.int .u64 (BB j).d))
        have uy0 := fun nx => (Kn.get (s9.out.up (hf nx).out) 2 1 rfl rfl : (f nx).cell? ⟨wr.heap.size, 1, none⟩ = some (.int .u64 (ys j).a))
        have uy1 := fun nx => (Kn.get (s9.out.up (hf nx).out) 2 2 rfl rfl : (f nx).cell? ⟨wr.heap.size, 2, none⟩ = some (.int .u64 (ys j).b))
        have uy2 := fun nx => (Kn.get (s9.out.up (hf nx).out) 2 3 rfl rfl : (f nx).cell? ⟨wr.heap.size, 3, none⟩ = some (.int .u64 (ys j).c))
        have uy3 := fun nx => (Kn.get (s9.out.up (hf nx).out) 2 4 rfl rfl : (f nx).cell? ⟨wr.heap.size, 4, none⟩ = some (.int .u64 (ys j).d))
        clear hf
        simp only [List.take_succ_cons, List.take_zero]
        repeat (go_big_quiet_step (first | (go_at_call 19; exact (T2 _).mono fun e w'' ⟨he, hb⟩ => ⟨he, hcl.out _ _ hb⟩) | (go_at_call 19; exact (T3 _).mono fun e w'' ⟨he, hb⟩ => ⟨he, hcl.out _ _ hb⟩)))
        exact wpQuiet_nil rfl
      simp only [List.drop_succ_cons, List.drop_zero]
      have z10 := b9.out.size
      have s10x : Hid (Kn w10 [(k10, zz4), (w7.heap.size + 1, (c4 (VV j))), (w7.heap.size, (c4 (OO j))), (wr.heap.size, (shC ⟨X j, ys j⟩)), (w3.heap.size + 1, (c4 (BB j))), (w3.heap.size, (c4 (TT j))), (w.heap.size, zz4)]) := s9.out.fresh hb10.out hk10 hc10.out
      have g10 : w.heap.size ≤ k10 := Nat.le_trans b9.out.size hk10
      have cz10_0 : w10.cell? ⟨k10, 0, none⟩ = some (.int .u64 0) := Kn.get s10x.out 0 0 rfl rfl
      have cz10_1 : w10.cell? ⟨k10, 1, none⟩ = some (.int .u64 0) := Kn.get s10x.out 0 1 rfl rfl
      have cz10_2 : w10.cell? ⟨k10, 2, none⟩ = some (.int .u64 0) := Kn.get s10x.out 0 2 rfl rfl
      have cz10_3 : w10.cell? ⟨k10, 3, none⟩ = some (.int .u64 0) := Kn.get s10x.out 0 3 rfl rfl
      have cz10 : ∀ j, w10.frozen? ⟨k10, j, none⟩ = false := Kn.fz s10x.out 0 rfl
      have s10 : Hid (Kn (st4 w10 k10 (PP j)) [(k10, (c4 (PP j))), (w7.heap.size + 1, (c4 (VV j))), (w7.heap.size, (c4 (OO j))), (wr.heap.size, (shC ⟨X j, ys j⟩)), (w3.heap.size + 1, (c4 (BB j))), (w3.heap.size, (c4 (TT j))), (w.heap.size, zz4)]) := s10x.out.st4 (PP j)
      have b10 : Hid (Below w.heap.size w (st4 w10 k10 (PP j))) := below_st4 (b9.out.trans (hb10.out.mono b9.out.size)) g10
      clear s10x s9 b9 hb10 hc10 hk10
      go_wp2_with fail
      clear cz10_0 cz10_1 cz10_2 cz10_3 cz10
      refine wp_region_up_then 5 (by kernel_rfl) (by kernel_rfl) (by kernel_rfl) (by kernel_rfl) (by decide) (fun _ _ d _ _ h => by cases d <;> exact h) (fun U hU f hf hcl => ?_)
      have utop_0 := fun nx => (Kn.get (s10.out.up (hf nx).out) 5 0 rfl rfl : (f nx).cell? ⟨w3.heap.size, 0, none⟩ = some (.int .u64 (TT j).a))
      have utop_1 := fun nx => (Kn.get (s10.out.up (hf nx).out) 5 1 rfl rfl : (f nx).cell? ⟨w3.heap.size, 1, none⟩ = some (.int .u64 (TT j).b))
      have utop_2 := fun nx => (Kn.get (s10.out.up (hf nx).out) 5 2 rfl rfl : (f nx).cell? ⟨w3.heap.size, 2, none⟩ = some (.int .u64 (TT j).c))
      have utop_3 := fun nx => (Kn.get (s10.out.up (hf nx).out) 5 3 rfl rfl : (f nx).cell? ⟨w3.heap.size, 3, none⟩ = some (.int .u64 (TT j).d))
      have uunder_0 := fun nx => (Kn.get (s10.out.up (hf nx).out) 1 0 rfl rfl : (f nx).cell? ⟨w7.heap.size + 1, 0, none⟩ = some (.int .u64 (VV j).a))
      have uunder_1 := fun nx => (Kn.get (s10.out.up (hf nx).out) 1 1 rfl rfl : (f nx).cell? ⟨w7.heap.size + 1, 1, none⟩ = some (.int .u64 (VV j).b))
      have uunder_2 := fun nx => (Kn.get (s10.out.up (hf nx).out) 1 2 rfl rfl : (f nx).cell? ⟨w7.heap.size + 1, 2, none⟩ = some (.int .u64 (VV j).c))
      have uunder_3 := fun nx => (Kn.get (s10.out.up (hf nx).out) 1 3 rfl rfl : (f nx).cell? ⟨w7.heap.size + 1, 3, none⟩ = some (.int .u64 (VV j).d))
      have upart_0 := fun nx => (Kn.get (s10.out.up (hf nx).out) 0 0 rfl rfl : (f nx).cell? ⟨k10, 0, none⟩ = some (.int .u64 (PP j).a))
      have upart_1 := fun nx => (Kn.get (s10.out.up (hf nx).out) 0 1 rfl rfl : (f nx).cell? ⟨k10, 1, none⟩ = some (.int .u64 (PP j).b))
      have upart_2 := fun nx => (Kn.get (s10.out.up (hf nx).out) 0 2 rfl rfl : (f nx).cell? ⟨k10, 2, none⟩ = some (.int .u64 (PP j).c))
      have upart_3 := fun nx => (Kn.get (s10.out.up (hf nx).out) 0 3 rfl rfl : (f nx).cell? ⟨k10, 3, none⟩ = some (.int .u64 (PP j).d))
      simp only [List.take_succ_cons, List.take_zero, List.drop_succ_cons, List.drop_zero]
      repeat (go_big_quiet_step (first | (go_at_call 19; exact (T4 _).mono fun e w'' ⟨he, hb⟩ => ⟨he, hcl.out _ _ hb⟩) | (go_at_call 17; exact (T5 _).mono fun e w'' ⟨he, hb⟩ => ⟨he, hcl.out _ _ hb⟩)))
      refine wpQuiet_nil ?_
      intro nx
      have hb11 := (hf nx).out
      clear hf hcl utop_0 utop_1 utop_2 utop_3 uunder_0 uunder_1 uunder_2 uunder_3 upart_0 upart_1 upart_2 upart_3
      generalize f nx = w11 at hb11 ⊢
      have s11 : Hid (Kn w11 [(k10, (c4 (PP j))), (w7.heap.size + 1, (c4 (VV j))), (w7.heap.size, (c4 (OO j))), (wr.heap.size, (shC ⟨X j, ys j⟩)), (w3.heap.size + 1, (c4 (BB j))), (w3.heap.size, (c4 (TT j))), (w.heap.size, zz4)]) := s10.out.up hb11
      have b11 : Hid (Below w.heap.size w w11) := b10.out.trans (hb11.mono b10.out.size)
      have z11 := b11.out.size
      clear hb11 s10 b10
      have utopo_0 : w11.cell? ⟨w3.heap.size, 0, none⟩ = some (.int .u64 (TT j).a) := Kn.get s11.out 5 0 rfl rfl
      have utopo_1 : w11.cell? ⟨w3.heap.size, 1, none⟩ = some (.int .u64 (TT j).b) := Kn.get s11.out 5 1 rfl rfl
      have utopo_2 : w11.cell? ⟨w3.heap.size, 2, none⟩ = some (.int .u64 (TT j).c) := Kn.get s11.out 5 2 rfl rfl
      have utopo_3 : w11.cell? ⟨w3.heap.size, 3, none⟩ = some (.int .u64 (TT j).d) := Kn.get s11.out 5 3 rfl rfl
      have utopo_z : ∀ j, w11.frozen? ⟨w3.heap.size, j, none⟩ = false := Kn.fz s11.out 5 rfl
      have s12 : Hid (Kn (st4 w11 (w3.heap.size) (TT (j + 1))) [(w3.heap.size, (c4 (TT (j + 1)))), (k10, (c4 (PP j))), (w7.heap.size + 1, (c4 (VV j))), (w7.heap.size, (c4 (OO j))), (wr.heap.size, (shC ⟨X j, ys j⟩)), (w3.heap.size + 1, (c4 (BB j))), (w.heap.size, zz4)]) := Kn.st4 (L := [(k10, (c4 (PP j))), (w7.heap.size + 1, (c4 (VV j))), (w7.heap.size, (c4 (OO j))), (wr.heap.size, (shC ⟨X j, ys j⟩)), (w3.heap.size + 1, (c4 (BB j))), (w.heap.size, zz4)]) (s11.out.front 5 rfl) (TT (j + 1))
      have b12 : Hid (Below w.heap.size w (st4 w11 (w3.heap.size) (TT (j + 1)))) := below_st4 b11.out (by omega)
      clear s11 b11
      have ubottom_0 : (st4 w11 (w3.heap.size) (TT (j + 1))).cell? ⟨w3.heap.size + 1, 0, none⟩ = some (.int .u64 (BB j).a) := Kn.get s12.out 5 0 rfl rfl
      have ubottom_1 : (st4 w11 (w3.heap.size) (TT (j + 1))).cell? ⟨w3.heap.size + 1, 1, none⟩ = some (.int .u64 (BB j).b) := Kn.get s12.out 5 1 rfl rfl
      have ubottom_2 : (st4 w11 (w3.heap.size) (TT (j + 1))).cell? ⟨w3.heap.size + 1, 2, none⟩ = some (.int .u64 (BB j).c) := Kn.get s12.out 5 2 rfl rfl
      have ubottom_3 : (st4 w11 (w3.heap.size) (TT (j + 1))).cell? ⟨w3.heap.size + 1, 3, none⟩ = some (.int .u64 (BB j).d) := Kn.get s12.out 5 3 rfl rfl
      have uunder_0 : (st4 w11 (w3.heap.size) (TT (j + 1))).cell? ⟨w7.heap.size + 1, 0, none⟩ = some (.int .u64 (VV j).a) := Kn.get s12.out 2 0 rfl rfl
      have uunder_1 : (st4 w11 (w3.heap.size) (TT (j + 1))).cell? ⟨w7.heap.size + 1, 1, none⟩ = some (.int .u64 (VV j).b) := Kn.get s12.out 2 1 rfl rfl
      have uunder_2 : (st4 w11 (w3.heap.size) (TT (j + 1))).cell? ⟨w7.heap.size + 1, 2, none⟩ = some (.int .u64 (VV j).c) := Kn.get s12.out 2 2 rfl rfl
      have uunder_3 : (st4 w11 (w3.heap.size) (TT (j + 1))).cell? ⟨w7.heap.size + 1, 3, none⟩ = some (.int .u64 (VV j).d) := Kn.get s12.out 2 3 rfl rfl
      go_wp2_with fail
      clear utopo_0 utopo_1 utopo_2 utopo_3 utopo_z ubottom_0 ubottom_1 ubottom_2 ubottom_3 uunder_0 uunder_1 uunder_2 uunder_3
      refine (T6 _).mono ?_
      rintro e w13 ⟨rfl, hb13⟩
      have s13 : Hid (Kn w13 [(w3.heap.size, (c4 (TT (j + 1)))), (k10, (c4 (PP j))), (w7.heap.size + 1, (c4 (VV j))), (w7.heap.size, (c4 (OO j))), (wr.heap.size, (shC ⟨X j, ys j⟩)), (w3.heap.size + 1, (c4 (BB j))), (w.heap.size, zz4)]) := s12.out.up hb13
      have b13 : Hid (Below w.heap.size w w13) := b12.out.trans (hb13.mono b12.out.size)
      have z13 := b13.out.size
      clear hb13 s12 b12
      have ubottomo_0 : w13.cell? ⟨w3.heap.size + 1, 0, none⟩ = some (.int .u64 (BB j).a) := Kn.get s13.out 5 0 rfl rfl
      have ubottomo_1 : w13.cell? ⟨w3.heap.size + 1, 1, none⟩ = some (.int .u64 (BB j).b) := Kn.get s13.out 5 1 rfl rfl
      have ubottomo_2 : w13.cell? ⟨w3.heap.size + 1, 2, none⟩ = some (.int .u64 (BB j).c) := Kn.get s13.out 5 2 rfl rfl
      have ubottomo_3 : w13.cell? ⟨w3.heap.size + 1, 3, none⟩ = some (.int .u64 (BB j).d) := Kn.get s13.out 5 3 rfl rfl
      have ubottomo_z : ∀ j, w13.frozen? ⟨w3.heap.size + 1, j, none⟩ = false := Kn.fz s13.out 5 rfl
      have s14 : Hid (Kn (st4 w13 (w3.heap.size + 1) (BB (j + 1))) [(w3.heap.size + 1, (c4 (BB (j + 1)))), (w3.heap.size, (c4 (TT (j + 1)))), (k10, (c4 (PP j))), (w7.heap.size + 1, (c4 (VV j))), (w7.heap.size, (c4 (OO j))), (wr.heap.size, (shC ⟨X j, ys j⟩)), (w.heap.size, zz4)]) := Kn.st4 (L := [(w3.heap.size, (c4 (TT (j + 1)))), (k10, (c4 (PP j))), (w7.heap.size + 1, (c4 (VV j))), (w7.heap.size, (c4 (OO j))), (wr.heap.size, (shC ⟨X j, ys j⟩)), (w.heap.size, zz4)]) (s13.out.front 5 rfl) (BB (j + 1))
      have b14 : Hid (Below w.heap.size w (st4 w13 (w3.heap.size + 1) (BB (j + 1)))) := below_st4 b13.out (by omega)
      clear s13 b13
      replace s14 : Hid (Kn (st4 w13 (w3.heap.size + 1) (BB (j + 1))) [(w3.heap.size + 1, (c4 (BB (j + 1)))), (w3.heap.size, (c4 (TT (j + 1)))), (k10, (c4 (PP j))), (w7.heap.size + 1, (c4 (VV j))), (w7.heap.size, (c4 (OO j))), (w.heap.size, zz4)]) := s14.out.drop 5
      replace s14 : Hid (Kn (st4 w13 (w3.heap.size + 1) (BB (j + 1))) [(w3.heap.size + 1, (c4 (BB (j + 1)))), (w3.heap.size, (c4 (TT (j + 1)))), (k10, (c4 (PP j))), (w7.heap.size + 1, (c4 (VV j))), (w.heap.size, zz4)]) := s14.out.drop 4
      replace s14 : Hid (Kn (st4 w13 (w3.heap.size + 1) (BB (j + 1))) [(w3.heap.size + 1, (c4 (BB (j + 1)))), (w3.heap.size, (c4 (TT (j + 1)))), (k10, (c4 (PP j))), (w.heap.size, zz4)]) := s14.out.drop 3
      replace s14 : Hid (Kn (st4 w13 (w3.heap.size + 1) (BB (j + 1))) [(w3.heap.size + 1, (c4 (BB (j + 1)))), (w3.heap.size, (c4 (TT (j + 1)))), (w.heap.size, zz4)]) := s14.out.drop 2
      replace s14 : Hid (Kn (st4 w13 (w3.heap.size + 1) (BB (j + 1))) [(w.heap.size, zz4), (w3.heap.size + 1, (c4 (BB (j + 1)))), (w3.heap.size, (c4 (TT (j + 1))))]) := s14.out.front 2 rfl
      replace s14 : Hid (Kn (st4 w13 (w3.heap.size + 1) (BB (j + 1))) [(w3.heap.size, (c4 (TT (j + 1)))), (w.heap.size, zz4), (w3.heap.size + 1, (c4 (BB (j + 1))))]) := s14.out.front 2 rfl
      replace s14 : Hid (Kn (st4 w13 (w3.heap.size + 1) (BB (j + 1))) [(w3.heap.size + 1, (c4 (BB (j + 1)))), (w3.heap.size, (c4 (TT (j + 1)))), (w.heap.size, zz4)]) := s14.out.front 2 rfl
      go_wp2_with fail
      clear ubottomo_0 ubottomo_1 ubottomo_2 ubottomo_3 ubottomo_z
      go_roundw
      case rel => exact ⟨j + 1, HJ.out, by go_num, s14, b14⟩
      case measure => simp [intOf]; have := HJ.out; omega
    · have j1 : ¬ (j : Int) < (n : Int) := by omega
      have ej : j = n := by omega
      have s6 : Hid (Kn wr [(w3.heap.size + 1, c4 (BB n)), (w3.heap.size, c4 (TT n)), (w.heap.size, zz4)]) := by rw [← ej]; exact sk
      have b6 := bk
      clear hlt hj ej sk bk CR WT M1 M2 M3 A1 M4
      go_wp2_with fail
      refine wp_region_up_then 4 (by kernel_rfl) (by kernel_rfl) (by kernel_rfl) (by kernel_rfl) (by decide) (fun _ _ d _ _ h => by cases d <;> exact h) (fun U hU f hf hcl => ?_)
      have utop_0 := fun nx => (Kn.get (s6.out.up (hf nx).out) 1 0 rfl rfl : (f nx).cell? ⟨w3.heap.size, 0, none⟩ = some (.int .u64 (TT n).a))
      have utop_1 := fun nx => (Kn.get (s6.out.up (hf nx).out) 1 1 rfl rfl : (f nx).cell? ⟨w3.heap.size, 1, none⟩ = some (.int .u64 (TT n).b))
      have utop_2 := fun nx => (Kn.get (s6.out.up (hf nx).out) 1 2 rfl rfl : (f nx).cell? ⟨w3.heap.size, 2, none⟩ = some (.int .u64 (TT n).c))
      have utop_3 := fun nx => (Kn.get (s6.out.up (hf nx).out) 1 3 rfl rfl : (f nx).cell? ⟨w3.heap.size, 3, none⟩ = some (.int .u64 (TT n).d))
      have ubottom_0 := fun nx => (Kn.get (s6.out.up (hf nx).out) 0 0 rfl rfl : (f nx).cell? ⟨w3.heap.size + 1, 0, none⟩ = some (.int .u64 (BB n).a))
      have ubottom_1 := fun nx => (Kn.get (s6.out.up (hf nx).out) 0 1 rfl rfl : (f nx).cell? ⟨w3.heap.size + 1, 1, none⟩ = some (.int .u64 (BB n).b))
      have ubottom_2 := fun nx => (Kn.get (s6.out.up (hf nx).out) 0 2 rfl rfl : (f nx).cell? ⟨w3.heap.size + 1, 2, none⟩ = some (.int .u64 (BB n).c))
      have ubottom_3 := fun nx => (Kn.get (s6.out.up (hf nx).out) 0 3 rfl rfl : (f nx).cell? ⟨w3.heap.size + 1, 3, none⟩ = some (.int .u64 (BB n).d))
      simp only [List.take_succ_cons, List.take_zero, List.drop_succ_cons, List.drop_zero]
      repeat (go_big_quiet_step (first | (go_at_call 20; exact (I1.out _).mono fun e w'' ⟨he, hb⟩ => ⟨he, hcl.out _ _ hb⟩) | (go_at_call 19; exact (M5.out _).mono fun e w'' ⟨he, hb⟩ => ⟨he, hcl.out _ _ hb⟩)))
      refine wpQuiet_nil ?_
      intro nx
      have hb7 := (hf nx).out
      clear hf hcl utop_0 utop_1 utop_2 utop_3 ubottom_0 ubottom_1 ubottom_2 ubottom_3
      generalize f nx = w7 at hb7 ⊢
      have s7 : Hid (Kn w7 [(w3.heap.size + 1, (c4 (BB n))), (w3.heap.size, (c4 (TT n))), (w.heap.size, zz4)]) := s6.out.up hb7
      have b7 : Hid (Below w.heap.size w w7) := b6.out.trans (hb7.mono b6.out.size)
      have z7 := b7.out.size
      clear hb7 s6 b6
      have uro_0 : w7.cell? ⟨w.heap.size, 0, none⟩ = some (.int .u64 0) := Kn.get s7.out 2 0 rfl rfl
      have uro_1 : w7.cell? ⟨w.heap.size, 1, none⟩ = some (.int .u64 0) := Kn.get s7.out 2 1 rfl rfl
      have uro_2 : w7.cell? ⟨w.heap.size, 2, none⟩ = some (.int .u64 0) := Kn.get s7.out 2 2 rfl rfl
      have uro_3 : w7.cell? ⟨w.heap.size, 3, none⟩ = some (.int .u64 0) := Kn.get s7.out 2 3 rfl rfl
      have uro_z : ∀ j, w7.frozen? ⟨w.heap.size, j, none⟩ = false := Kn.fz s7.out 2 rfl
      have s8 : Hid (Kn (st4 w7 (w.heap.size) (ans)) [(w.heap.size, (c4 (ans))), (w3.heap.size + 1, (c4 (BB n))), (w3.heap.size, (c4 (TT n)))]) := Kn.st4 (L := [(w3.heap.size + 1, (c4 (BB n))), (w3.heap.size, (c4 (TT n)))]) (s7.out.front 2 rfl) (ans)
      have b8 : Hid (Below w.heap.size w (st4 w7 (w.heap.size) (ans))) := below_st4 b7.out (by omega)
      clear s7 b7
      go_wp2_with fail
      clear uro_0 uro_1 uro_2 uro_3 uro_z
      have urr_0 : (st4 w7 (w.heap.size) (ans)).cell? ⟨w.heap.size, 0, none⟩ = some (.int .u64 (ans).a) := Kn.get s8.out 0 0 rfl rfl
      have urr_1 : (st4 w7 (w.heap.size) (ans)).cell? ⟨w.heap.size, 1, none⟩ = some (.int .u64 (ans).b) := Kn.get s8.out 0 1 rfl rfl
      have urr_2 : (st4 w7 (w.heap.size) (ans)).cell? ⟨w.heap.size, 2, none⟩ = some (.int .u64 (ans).c) := Kn.get s8.out 0 2 rfl rfl
      have urr_3 : (st4 w7 (w.heap.size) (ans)).cell? ⟨w.heap.size, 3, none⟩ = some (.int .u64 (ans).d) := Kn.get s8.out 0 3 rfl rfl
      refine bodyPost_ret (v := .tuple #[N ans, .int .i64 0]) ?_ rfl ⟨rfl, b8.out⟩
      show (results Tryd.f11 _).run Tryd.prog (st4 w7 (w.heap.size) (ans)) = .ok _ (st4 w7 (w.heap.size) (ans))
      clear s8 b8
      generalize (st4 w7 (w.heap.size) (ans)) = W9 at *
      simp [results, Tryd.results11, go_sem, urr_0, urr_1, urr_2, urr_3]
end Go.Proofs.YtdcpicbkemmakaaDoor
