/- Package share, as it landed: areShares' walk. -/
import Derived.Test.YtdcpicbkemmakabDoorQShLToShPs
import Derived.Test.YtdcpicbkemmakabDoorQOwnToShD
namespace Go.Proofs.YtdcpicbkemmakabDoor
open Go.RowKit
attribute [local go_sem] World.cell?_alloc_some cell_alloc2 cell_alloc3 cell_alloc4 frozen?_alloc_cells frozen_out
set_option linter.unusedSimpArgs false
/-- Which places are taken, as a row. -/
def snL (f : Nat → Bool) : List Value := (List.range 256).map fun k => .bool (f k)
def snZ : List Value := List.replicate 256 (.bool false)
theorem zero_seen (w : World) : (zeroValue 53).run Tryd.prog w = .ok (.agg snZ.toArray) w := I.zero_of (by kernel_rfl) w
theorem snL_length (f : Nat → Bool) : (snL f).length = 256 := by rw [snL, List.length_map, List.length_range]
theorem snL_get (f : Nat → Bool) (x : Nat) (hx : x < 256) : (snL f)[x]? = some (.bool (f x)) := by
  rw [snL, List.getElem?_map, List.getElem?_range hx]
  rfl
theorem snL_set (f : Nat → Bool) (x : Nat) : (snL f).set x (.bool true) = snL (fun k => f k || x == k) := by
  refine List.ext_getElem (by rw [List.length_set, snL_length, snL_length]) fun i h1 h2 => ?_
  rw [List.getElem_set]
  simp only [snL, List.getElem_map, List.getElem_range]
  by_cases h : x = i
  · rw [if_pos h, h]
    simp
  · rw [if_neg h]
    have : (x == i) = false := beq_eq_false_iff_ne.2 h
    rw [this, Bool.or_false]
/-- Taken by those ahead. -/
def snF (X : Nat → Int) (j k : Nat) : Bool := (List.range j).any fun i => X i == (k : Int)
theorem snF_zero (X : Nat → Int) : snL (snF X 0) = snZ := by
  unfold snL snF snZ
  simp only [List.range_zero, List.any_nil]
  rw [List.map_const', List.length_range]
theorem snF_succ (X : Nat → Int) (j x : Nat) (h : X j = (x : Int)) : (fun k => snF X j k || x == k) = snF X (j + 1) := by
  funext k
  unfold snF
  rw [List.range_succ, List.any_append, List.any_cons, List.any_nil, Bool.or_false, h]
  congr 1
  by_cases e : x = k
  · rw [e, beq_self_eq_true, beq_self_eq_true]
  · rw [beq_eq_false_iff_ne.2 e, beq_eq_false_iff_ne.2 (by omega)]
theorem snF_iff (X : Nat → Int) (j k : Nat) : snF X j k = true ↔ ∃ i, i < j ∧ X i = (k : Int) := by
  unfold snF
  rw [List.any_eq_true]
  constructor
  · rintro ⟨i, hi, h⟩
    exact ⟨i, List.mem_range.1 hi, beq_iff_eq.1 h⟩
  · rintro ⟨i, hi, h⟩
    exact ⟨i, List.mem_range.2 hi, beq_iff_eq.2 h⟩
/-- A share that is refused. -/
def badL (X : Nat → Int) (lo : Nat → Bool) (j : Nat) : Prop := X j < 1 ∨ 255 < X j ∨ lo j = false ∨ ∃ i, i < j ∧ X i = X j
set_option maxRecDepth 20000 in
set_option maxHeartbeats 4000000 in
theorem areShares_walk (n b o cp : Nat) (n20 : n ≤ 20) (X : Nat → Int) (ys : Nat → Nm) (lo : Nat → Bool) (r : Bool) (w : World)
    (CR : Hid (∀ W, Below w.heap.size w W → ∀ i, i < n → W.rangeAt b (o + i * 5) (shC ⟨X i, ys i⟩)))
    (r1 : Hid ((∃ j, j < n ∧ badL X lo j) → r = false)) (r0 : Hid ((∀ j, j < n → ¬ badL X lo j) → r = true))
    (LO : Hid (∀ j, j < n → ∀ W, Calls Tryd.prog 14 #[N (ys j)] W fun e w' => e = .returned (.bool (lo j)) ∧ Below W.heap.size W w')) :
    Calls Tryd.prog 8 #[.slice (some ⟨b, o, none⟩) n cp] w fun e w' => e = .returned (.bool r) ∧ Below w.heap.size w w' := by
  have N20 : Hid (n ≤ 20) := n20
  clear n20
  go_enter Tryd.func8, Tryd.ntmps8
  have s0 : Hid (Kn (w.alloc (.cells snZ.toArray 53)) [(w.heap.size, snL (snF X 0))]) := by
    rw [snF_zero]
    exact (Kn.nil w).al snZ 53 rfl
  have b0 : Hid (Below w.heap.size w (w.alloc (.cells snZ.toArray 53))) := (Below.refl _ _).alloc (Nat.le_refl _) _
  go_wp2_with (simp only [zero_seen])
  go_loopw [8] (fun t wr => ∃ j : Nat, j ≤ n ∧ t = .int .i64 (j : Int) ∧ Hid (∀ i, i < j → ¬ badL X lo i) ∧ Hid (Kn wr [(w.heap.size, snL (snF X j))]) ∧ Hid (Below w.heap.size w wr)) (fun t _ => n - (intOf t).toNat)
  case atStart => exact ⟨0, Nat.zero_le _, rfl, fun i hi => absurd hi (Nat.not_lt_zero _), s0, b0⟩
  case round =>
    clear s0 b0
    obtain ⟨j, hj, rfl, gk, sk, bk⟩ := hrel
    by_cases hlt : j < n
    · have j1 : (j : Int) < (n : Int) := by omega
      have j0 : (0 : Int) ≤ (j : Int) := by omega
      have j20 : (j : Int) < 20 := by have := N20.out; omega
      have HJ : Hid (j < n) := hlt
      obtain ⟨xj, hxj⟩ : ∃ z, Hid (X j = z) := ⟨_, rfl⟩
      have bd : Hid (badL X lo j → r = false) := fun h => r1.out ⟨j, HJ.out, h⟩
      clear hlt hj
      have c2 : Hid (wr.rangeAt b (o + j * 5) (shC ⟨xj, ys j⟩)) := by rw [← hxj.out]; exact CR.out _ bk.out j HJ.out
      have c3 : Hid ((wr.alloc (.cells shZ.toArray 28)).rangeAt b (o + j * 5) (shC ⟨xj, ys j⟩)) := by rw [← hxj.out]; exact CR.out _ (bk.out.alloc bk.out.size _) j HJ.out
      have kn := sk.out.al (shC ⟨xj, ys j⟩) 28 rfl
      have s5 : Hid (Kn (wr.alloc (.cells #[.int .i64 xj, .int .u64 (ys j).a, .int .u64 (ys j).b, .int .u64 (ys j).c, .int .u64 (ys j).d] 28)) [(wr.heap.size, shC ⟨xj, ys j⟩), (w.heap.size, snL (snF X j))]) := kn
      have b5 : Hid (Below w.heap.size w (wr.alloc (.cells #[.int .i64 xj, .int .u64 (ys j).a, .int .u64 (ys j).b, .int .u64 (ys j).c, .int .u64 (ys j).d] 28))) := bk.out.alloc bk.out.size _
      clear kn sk bk
      by_cases d1 : xj < 1
      · have e1 := bd.out (.inl (by rw [hxj.out]; exact d1))
        clear bd s5
        go_wp2_with (first | simp only [zero_share] | refine wp_ldW rfl 28 _ rfl b (o + j * 5) rfl [.int .i64 xj, .int .u64 (ys j).a, .int .u64 (ys j).b, .int .u64 (ys j).c, .int .u64 (ys j).d] _ (by first | exact c2.out | exact c3.out) u_share rfl (info_share ⟨xj, ys j⟩) ?_)
        go_ret
        exact ⟨by first | rfl | (rw [e1]; rfl), b5.out⟩
      have D1 : Hid (¬ xj < 1) := d1
      by_cases d2 : xj > 255
      · have e1 := bd.out (.inr (.inl (by rw [hxj.out]; exact d2)))
        clear bd s5
        go_wp2_with (first | simp only [zero_share] | refine wp_ldW rfl 28 _ rfl b (o + j * 5) rfl [.int .i64 xj, .int .u64 (ys j).a, .int .u64 (ys j).b, .int .u64 (ys j).c, .int .u64 (ys j).d] _ (by first | exact c2.out | exact c3.out) u_share rfl (info_share ⟨xj, ys j⟩) ?_)
        go_ret
        exact ⟨by first | rfl | (rw [e1]; rfl), b5.out⟩
      obtain ⟨x, rfl⟩ : ∃ x : Nat, xj = (x : Int) := ⟨xj.toNat, by omega⟩
      have HX : Hid (1 ≤ x ∧ x ≤ 255) := by constructor <;> omega
      have x0 : (0 : Int) ≤ (x : Int) := by omega
      have x1 : (x : Int) < 256 := by omega
      have gx := Kn.get s5.out 1 x rfl (snL_get _ x (by omega))
      by_cases d3 : snF X j x = true
      · have e1 := bd.out (.inr (.inr (.inr (by rw [hxj.out]; exact (snF_iff X j x).1 d3))))
        rw [d3] at gx
        clear bd s5
        go_wp2_with (first | simp only [zero_share] | refine wp_ldW rfl 28 _ rfl b (o + j * 5) rfl [.int .i64 (x : Int), .int .u64 (ys j).a, .int .u64 (ys j).b, .int .u64 (ys j).c, .int .u64 (ys j).d] _ (by first | exact c2.out | exact c3.out) u_share rfl (info_share ⟨(x : Int), ys j⟩) ?_)
        go_ret
        exact ⟨by first | rfl | (rw [e1]; rfl), b5.out⟩
      have D3 : Hid (snF X j x = false) := by show _ = _; simpa using d3
      rw [D3.out] at gx
      go_wp2_with (first | simp only [zero_share] | refine wp_ldW rfl 28 _ rfl b (o + j * 5) rfl [.int .i64 (x : Int), .int .u64 (ys j).a, .int .u64 (ys j).b, .int .u64 (ys j).c, .int .u64 (ys j).d] _ (by first | exact c2.out | exact c3.out) u_share rfl (info_share ⟨(x : Int), ys j⟩) ?_)
      clear gx c2 c3
      refine (LO.out j HJ.out _).mono ?_
      rintro e w6 ⟨rfl, hb6⟩
      have s6 : Hid (Kn w6 [(wr.heap.size, shC ⟨(x : Int), ys j⟩), (w.heap.size, snL (snF X j))]) := s5.out.up hb6
      have b6 : Hid (Below w.heap.size w w6) := b5.out.trans (hb6.mono b5.out.size)
      clear hb6 s5 b5
      obtain ⟨t, ht⟩ : ∃ t, Hid (lo j = t) := ⟨_, rfl⟩
      rw [ht.out]
      cases t with
      | false =>
        have e1 := bd.out (.inr (.inr (.inl ht.out)))
        clear bd s6
        go_wp2_with fail
        go_ret
        exact ⟨by first | rfl | (rw [e1]; rfl), b6.out⟩
      | true =>
        have gk' : Hid (∀ i, i < j + 1 → ¬ badL X lo i) := fun i hi => by
          by_cases e : i = j
          · rw [e]
            rintro (h | h | h | h)
            · rw [hxj.out] at h; have := HX.out; omega
            · rw [hxj.out] at h; have := HX.out; omega
            · rw [ht.out] at h; cases h
            · rw [hxj.out] at h; have := (snF_iff X j x).2 h; rw [D3.out] at this; cases this
          · exact gk.out i (by omega)
        have cx := Kn.get s6.out 1 x rfl (snL_get _ x (by have := HX.out; omega))
        have zx := Kn.fz s6.out 1 rfl
        have ux := Kn.get s6.out 0 0 rfl (rfl : (shC ⟨(x : Int), ys j⟩)[0]? = some (.int .i64 (x : Int)))
        have s7 : Hid (Kn (w6.setCell ⟨w.heap.size, x, none⟩ (.bool true)) [(w.heap.size, snL (snF X (j + 1)))]) := by
          have := (Kn.set (L := [(wr.heap.size, shC ⟨(x : Int), ys j⟩)]) (s6.out.front 1 rfl) x (.bool true) (by rw [snL_length]; have := HX.out; omega)).drop 1
          rw [snL_set, snF_succ X j x hxj.out] at this
          exact this
        have b7 : Hid (Below w.heap.size w (w6.setCell ⟨w.heap.size, x, none⟩ (.bool true))) := b6.out.setCell (p := ⟨w.heap.size, x, none⟩) (Nat.le_refl _) _
        clear s6 b6 gk bd
        go_wp2_with fail
        clear cx zx ux
        go_roundw
        case rel => exact ⟨j + 1, HJ.out, by go_num, gk', s7, b7⟩
        case measure => simp [intOf]; have := HJ.out; omega
    · have j1 : ¬ (j : Int) < (n : Int) := by omega
      have e1 := r0.out fun i hi => gk.out i (by omega)
      clear hlt hj
      go_wp2_with fail
      go_ret
      exact ⟨by first | rfl | (rw [e1]; rfl), bk.out⟩
end Go.Proofs.YtdcpicbkemmakabDoor
