import Derived.Test.YtfanndkhajokcaaDoorGrp22
import Derived.Test.YtfanndkhajokcaaDoorMNew
/- A source of bytes in memory, as package draw keeps it: its cells; the contract of draw.Source.mark. -/
namespace Go.Proofs.YtfanndkhajokcaaDoor
open Go.RowKit
set_option linter.unusedSimpArgs false
attribute [local go_sem] YieldsP execOp
attribute [local simp] MP.eq_p
/-- The cells of a source: its seed's mark of nothing, and its place. -/
def srcC (seed : List Nat) (p : Nat) : List Value := mC (fitS seed) [] ++ [.int .u64 (p : Int)]
theorem srcC_length (seed : List Nat) (p : Nat) : (srcC seed p).length = 147 := by rw [srcC, List.length_append, mC_length]; rfl
/-- In block k lies a source of this seed, at place p; it looks at this block alone. -/
structure Src (w : World) (k : Nat) (F : Nat → Prop) (seed : List Nat) (p : Nat) : Prop where
  low : ∀ x ∈ seed, x < 256
  small : p < 18446744073709551616
  foot : ∀ g, F g ↔ g = k
  blk : Blk w k (srcC seed p)
theorem Blk.same {W w1 : World} {k : Nat} {vs : List Value} (h : Blk W k vs) (e : w1.heap[k]? = W.heap[k]?) : Blk w1 k vs := by
  refine ⟨?_, fun j v hv => ?_, fun j => ?_⟩
  · have h1 := h.lt
    exact (Array.getElem?_eq_some_iff.1 (e.trans (Array.getElem?_eq_getElem h1))).1
  · rw [← h.cell j v hv]
    simp [World.cell?, e]
  · rw [← h.fz j]
    simp [World.frozen?, e]
theorem Src.stay {W w1 : World} {k p : Nat} {F : Nat → Prop} {seed : List Nat} (h : Src W k F seed p) (e : w1.heap[k]? = W.heap[k]?) : Src w1 k F seed p :=
  ⟨h.low, h.small, h.foot, h.blk.same e⟩
theorem Src.up {W w1 : World} {k p B : Nat} {F : Nat → Prop} {seed : List Nat} (h : Src W k F seed p) (hb : Below B W w1) (hB : k < B) : Src w1 k F seed p := h.stay (hb.block k hB)
theorem Src.at {w : World} {k p : Nat} {F : Nat → Prop} {seed : List Nat} (h : Src w k F seed p) : w.cell? ⟨k, 146, none⟩ = some (.int .u64 (p : Int)) ∧ w.frozen? ⟨k, 146, none⟩ = false :=
  ⟨h.blk.cell 146 _ (by rw [srcC, List.getElem?_append_right (by rw [mC_length]; exact Nat.le_refl _), mC_length]; rfl), h.blk.fz 146⟩
theorem Src.key {w : World} {k p : Nat} {F : Nat → Prop} {seed : List Nat} (h : Src w k F seed p) : w.rangeAt k 0 (mC (fitS seed) []) :=
  Blk.range (a := []) (b := mC (fitS seed) []) (c := [.int .u64 (p : Int)]) h.blk rfl
/-- The place is another. -/
theorem Src.move {w : World} {k p : Nat} {F : Nat → Prop} {seed : List Nat} (h : Src w k F seed p) (q : Nat) (hq : q < 18446744073709551616) (z : Int) (hz : z = (q : Int)) : Src (w.setCell ⟨k, 146, none⟩ (.int .u64 z)) k F seed q := by
  subst hz
  refine ⟨h.low, hq, h.foot, ?_⟩
  have := h.blk.set 146 (.int .u64 (q : Int)) (by rw [srcC_length]; omega)
  have e : (srcC seed p).set 146 (.int .u64 (q : Int)) = srcC seed q := by
    unfold srcC
    rw [List.set_append_right _ _ (by rw [mC_length]; omega), mC_length]
    rfl
  rw [e] at this
  exact this
/-- The first bytes of eight, and then 0. -/
def upTo (i j : Nat) : List Nat := (be8 i).take j ++ List.replicate (8 - j) 0
theorem upTo_length (i j : Nat) (h : j ≤ 8) : (upTo i j).length = 8 := by
  rw [upTo, List.length_append, List.length_take, be8_length, List.length_replicate]
  omega
theorem upTo_zero (i : Nat) : upTo i 0 = List.replicate 8 0 := rfl
theorem upTo_all (i : Nat) : upTo i 8 = be8 i := by
  rw [upTo, List.take_of_length_le (by rw [be8_length]; exact Nat.le_refl _)]
  simp
theorem upTo_set (i j : Nat) (h : j < 8) : (upTo i j).set j (i / 2 ^ (56 - 8 * j) % 256) = upTo i (j + 1) := by
  have l : ((be8 i).take j).length = j := by rw [List.length_take, be8_length]; omega
  unfold upTo
  rw [List.set_append_right _ _ (by omega), l, Nat.sub_self, be8_at h, show 8 - j = 8 - (j + 1) + 1 by omega, List.replicate_succ, List.set_cons_zero, List.append_assoc]
  rfl
theorem u_b8a : Tryd.prog.underlying 96 = some (.array 8 5) := by kernel_rfl
set_option maxRecDepth 20000 in
set_option maxHeartbeats 4000000 in
theorem smark_fun {seed : List Nat} {F : Nat → Prop} {k p : Nat} (i : Nat) (hi : i < 18446744073709551616) (w : World) (hs : Src w k F seed p) (hT : KTab w) :
    Calls Tryd.prog 52 #[ptr k, .int .u64 (i : Int)] w fun e w' => e = .returned (vB (blkS seed i)) ∧ Below w.heap.size w w' := by
  have W1 : Hid _ := mwrite_fun (fitS seed) (fitS_low hs.low) [] (be8 i) (by simp) (be8_low i) (by rw [be8_length]; decide)
  rw [List.nil_append] at W1
  have S1 : Hid (∀ w, KTab w → Calls Tryd.prog 45 #[mV (fitS seed) (be8 i)] w fun e w' => e = .returned (vB (blkS seed i)) ∧ Below w.heap.size w w') := msum_fun (fitS seed) (fitS_low hs.low) (be8 i) (be8_low i)
  have ID : Hid _ := info_d32.trans (congrArg some (show 32 = ((blkS seed i).map b8).length by rw [List.length_map, blkS_length]))
  have MK : Hid ((blkS seed i).length = 32) := blkS_length _ _
  have RK : Hid (∀ W, Below w.heap.size w W → W.rangeAt k 0 (mC (fitS seed) [])) := fun W hW => (hs.up hW hs.blk.lt).key
  have IM : Hid _ := info_mst.trans (congrArg some (mC_length (fitS seed) []).symm)
  have HT : Hid (∀ W, Below w.heap.size w W → KTab W) := fun W hW => hT.up hW hT.pos
  have HE : Hid (mV (fitS seed) [] = .agg (mC (fitS seed) []).toArray) := rfl
  obtain ⟨ds, hu, hr⟩ := u_mst
  obtain ⟨x0, x1, x2⟩ := al2 w #[Value.int IntKind.u8 0, Value.int IntKind.u8 0, Value.int IntKind.u8 0, Value.int IntKind.u8 0, Value.int IntKind.u8 0, Value.int IntKind.u8 0, Value.int IntKind.u8 0, Value.int IntKind.u8 0, Value.int IntKind.u8 0, Value.int IntKind.u8 0, Value.int IntKind.u8 0, Value.int IntKind.u8 0, Value.int IntKind.u8 0, Value.int IntKind.u8 0, Value.int IntKind.u8 0, Value.int IntKind.u8 0, Value.int IntKind.u8 0, Value.int IntKind.u8 0, Value.int IntKind.u8 0, Value.int IntKind.u8 0, Value.int IntKind.u8 0, Value.int IntKind.u8 0, Value.int IntKind.u8 0, Value.int IntKind.u8 0, Value.int IntKind.u8 0, Value.int IntKind.u8 0, Value.int IntKind.u8 0, Value.int IntKind.u8 0, Value.int IntKind.u8 0, Value.int IntKind.u8 0, Value.int IntKind.u8 0, Value.int IntKind.u8 0] #[Value.int IntKind.u8 0, Value.int IntKind.u8 0, Value.int IntKind.u8 0, Value.int IntKind.u8 0, Value.int IntKind.u8 0, Value.int IntKind.u8 0, Value.int IntKind.u8 0, Value.int IntKind.u8 0] 47 96
  have X0 : Hid (Blk _ _ ((List.replicate 32 0).map b8)) := x0
  have X1 : Hid (Blk _ _ ((upTo i 0).map b8)) := x1
  have X2 : Hid (Below _ _ _) := x2
  have HI : Hid (i < 18446744073709551616) := hi
  rw [HE.out] at W1
  clear hs hT x0 x1 x2 HE
  generalize mC (fitS seed) [] = mc at *
  generalize mV (fitS seed) (be8 i) = m2 at *
  generalize blkS seed i = mk at *
  go_enter Tryd.func52, Tryd.ntmps52
  go_wp2_with fail
  generalize World.alloc (w.alloc _) _ = w1 at *
  go_loopw [7] (fun x wr => ∃ j : Nat, j ≤ 8 ∧ x = .int .i64 (j : Int) ∧ Hid (Blk wr w.heap.size ((List.replicate 32 0).map b8)) ∧ Hid (Blk wr (w.heap.size + 1) ((upTo i j).map b8)) ∧ Hid (Below w.heap.size w wr)) (fun x _ => 8 - (intOf x).toNat)
  case atStart => exact ⟨0, by omega, rfl, X0, X1, X2⟩
  case round =>
    clear X0 X1 X2
    obtain ⟨j, hj, rfl, X0, X1, X2⟩ := hrel
    by_cases hj8 : j < 8
    · have j1 : (j : Int) < 8 := by omega
      have cj := X1.out.cell j (b8 ((upTo i j).getD j 0)) (by simp [List.getD_eq_getElem?_getD, upTo_length i j hj, hj8])
      have zj := X1.out.fz j
      have XS : Hid _ := X1.out.set j (b8 (i / 2 ^ (56 - 8 * j) % 256)) (by rw [List.length_map, upTo_length i j hj]; exact hj8)
      rw [← List.map_set, upTo_set i j hj8] at XS
      have X0' : Hid _ := X0.out.apart1 (k' := w.heap.size + 1) (o := j) (v := b8 (i / 2 ^ (56 - 8 * j) % 256)) (by omega)
      have X2' : Hid _ := X2.out.setCell (p := ⟨w.heap.size + 1, j, none⟩) (Nat.le_succ _) (b8 (i / 2 ^ (56 - 8 * j) % 256))
      clear X0 X1 X2
      go_wp2_with fail
      go_roundw
      case rel => exact ⟨j + 1, by omega, by first | rfl | go_num, X0', XS, X2'⟩
      case measure => simp [intOf]; omega
    · obtain rfl : j = 8 := by omega
      rw [upTo_all] at X1
      have SD : Hid (∀ W, _) := fun W => slice_all u_b8a info_u8 (by decide) (w.heap.size + 1) 0 W
      clear hj8 hj
      go_wp2_with fail
      refine wp_region_monoSE 7 [MP.eq (.pointer (some ⟨k, 0, none⟩)), MP.eq (.pointer (some ⟨k, 0, none⟩)), MP.eq (.pointer (some ⟨k, 0, none⟩)), MP.eq (.agg mc.toArray), MP.eq (.slice (some ⟨w.heap.size + 1, 0, none⟩) 8 8), MP.eq (m2), MP.eq (vB mk)] (by kernel_rfl) (by kernel_rfl) rfl (by decide) (by kernel_rfl) ?_
      apply Exists.intro
      refine ⟨fun vals => ?_, ?_, fun vals4 w4 hb4 hF hO => ?_⟩
      · simp only [putsV, dstL, List.length_cons, List.length_nil, Nat.zero_add, Nat.reduceAdd, List.getElem?_cons_zero, List.getElem?_cons_succ, Option.bind_some, Act.put, List.setIfInBounds_toArray, List.set_cons_succ, List.set_cons_zero]
        rfl
      · refine ⟨?_, ?_, ?_, ?_, ?_, ?_, ?_, trivial⟩
        · intro vals W hW hw hd
          try simp [Region.binds] at hd
          refine ⟨by first | rfl | simp [Region.wanted, yielded, hd], ?_⟩
          simp [go_sem, hd]
          exact Below.refl _ _
        · intro vals W hW hw hd
          try simp [Region.binds] at hd
          refine ⟨by first | rfl | simp [Region.wanted, yielded, hd], ?_⟩
          simp [go_sem, hd]
          exact Below.refl _ _
        · intro vals W hW hw hd
          try simp [Region.binds] at hd
          refine ⟨by first | rfl | simp [Region.wanted, yielded, hd], ?_⟩
          simp [go_sem, hd]
          exact Below.refl _ _
        · intro vals W hW hw hd
          try simp [Region.binds] at hd
          refine ⟨by first | rfl | simp [Region.wanted, yielded, hd], ?_⟩
          exact yields_load 70 (.tmp 21) rfl k 0 hd mc _ (RK.out W (X2.out.trans (hW.out.mono X2.out.size))) hu hr IM.out rfl
        · intro vals W hW hw hd
          try simp [Region.binds] at hd
          refine ⟨by first | rfl | simp [Region.wanted, yielded, hd], ?_⟩
          simp [go_sem, hd, SD.out W]
          exact Below.refl _ _
        · intro vals W hW hw hd
          try simp [Region.binds] at hd
          refine ⟨by first | rfl | simp [Region.wanted, yielded, hd], ?_⟩
          simp [go_sem, hd]
          exact (W1.out _ W (By.of_blk (X1.out.up hW.out X1.out.lt) (be8_length i)) (HT.out W (X2.out.trans (hW.out.mono X2.out.size)))).mono fun e w' ⟨he, hb⟩ => ⟨_, he, rfl, hb⟩
        · intro vals W hW hw hd
          try simp [Region.binds] at hd
          refine ⟨by first | rfl | simp [Region.wanted, yielded, hd], ?_⟩
          simp [go_sem, hd]
          exact (S1.out W (HT.out W (X2.out.trans (hW.out.mono X2.out.size)))).mono fun e w' ⟨he, hb⟩ => ⟨_, he, rfl, hb⟩
      obtain ⟨f0, f1, f2, f3, f4, f5, f6, _⟩ := hF
      simp only [MP.eq_p] at f0 f1 f2 f3 f4 f5 f6
      rw [f0, f1, f2, f3, f4, f5, f6]
      simp only [List.drop_succ_cons, List.drop_zero]
      have E0 : Hid (Blk w4 w.heap.size ((List.replicate 32 0).map b8)) := X0.out.up hb4.out X0.out.lt
      have D4 : Hid (Below w.heap.size w w4) := X2.out.trans (hb4.out.mono X2.out.size)
      clear f0 f1 f2 f3 f4 f5 f6 hb4 hO X0 X1 X2 W1 S1 HT RK SD
      have T4 : Hid (w4.there w.heap.size 0 (mk.map b8).length) := E0.out.there (by rw [List.length_map, MK.out]; simp)
      go_wp2_with (refine wp_store_eq rfl 47 (.tmp 4) (.tmp 25) rfl w.heap.size 0 (mk.map b8) rfl rfl T4.out ID.out (one_b8 _) ?_)
      intro w5 hw5
      go_wp2_with fail
      refine bodyPost_ret (v := vB mk) ?_ rfl ⟨rfl, ?_⟩
      · rw [hw5.out]
        exact results_cell (b := w.heap.size) rfl rfl (World.rangeAt_setCells_same _ _ _ _ T4.out) u_d32 rfl ID.out
      · rw [hw5.out]
        exact below_setCells _ _ _ D4.out (Nat.le_refl _)
end Go.Proofs.YtfanndkhajokcaaDoor
