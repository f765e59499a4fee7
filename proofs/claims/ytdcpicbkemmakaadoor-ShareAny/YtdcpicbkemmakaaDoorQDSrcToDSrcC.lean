/- Texts that were joined: DSrc, RowB, DFill, DSrcC. -/
import Derived.Test.YtdcpicbkemmakaaDoorQRMarkToDrawC
import Derived.Test.YtdcpicbkemmakaaDoorQMBeginToMNew
import Derived.Test.YtdcpicbkemmakaaDoorQBKToHB
/- A source of bytes in memory, as package draw keeps it: its cells; the contract of draw.Source.mark. -/
namespace Go.Proofs.YtdcpicbkemmakaaDoor
open Go.RowKit
set_option linter.unusedSimpArgs false
attribute [local go_sem] YieldsP execOp
attribute [local simp] MP.eq_p
/-- The cells of a source: its seed's mark of nothing, and its place. -/
def srcC (seed : List Nat) (p : Nat) : List Value := mC (fitS seed) [] ++ [.int .u64 (p : Int)]
theorem srcC_length (seed : List Nat) (p : Nat) : (srcC seed p).length = 147 := by rw [srcC, List.length_append, mC_length]; rfl
/-- In block k lies a source of this seed, at place p; it looks at this block alone. -/
structure Src (w : World) (k : Nat) (F : Nat → Prop) (seed : List Nat) (p : Nat) : Prop where
  low : ∀ x ∈ seed, x < 256
  small : p < 18446744073709551616
  foot : ∀ g, F g ↔ g = k
  blk : Blk w k (srcC seed p)
theorem Blk.same {W w1 : World} {k : Nat} {vs : List Value} (h : Blk W k vs) (e : w1.heap[k]? = W.heap[k]?) : Blk w1 k vs := by
  refine ⟨?_, fun j v hv => ?_, fun j => ?_⟩
  · have h1 := h.lt
    exact (Array.getElem?_eq_some_iff.1 (e.trans (Array.getElem?_eq_getElem h1))).1
  · rw [← h.cell j v hv]
    simp [World.cell?, e]
  · rw [← h.fz j]
    simp [World.frozen?, e]
theorem Src.stay {W w1 : World} {k p : Nat} {F : Nat → Prop} {seed : List Nat} (h : Src W k F seed p) (e : w1.heap[k]? = W.heap[k]?) : Src w1 k F seed p :=
  ⟨h.low, h.small, h.foot, h.blk.same e⟩
theorem Src.up {W w1 : World} {k p B : Nat} {F : Nat → Prop} {seed : List Nat} (h : Src W k F seed p) (hb : Below B W w1) (hB : k < B) : Src w1 k F seed p := h.stay (hb.block k hB)
theorem Src.at {w : World} {k p : Nat} {F : Nat → Prop} {seed : List Nat} (h : Src w k F seed p) : w.cell? ⟨k, 146, none⟩ = some (.int .u64 (p : Int)) ∧ w.frozen? ⟨k, 146, none⟩ = false :=
  ⟨h.blk.cell 146 _ (by rw [srcC, List.getElem?_append_right (by rw [mC_length]; exact Nat.le_refl _), mC_length]; rfl), h.blk.fz 146⟩
theorem Src.key {w : World} {k p : Nat} {F : Nat → Prop} {seed : List Nat} (h : Src w k F seed p) : w.rangeAt k 0 (mC (fitS seed) []) :=
  Blk.range (a := []) (b := mC (fitS seed) []) (c := [.int .u64 (p : Int)]) h.blk rfl
/-- The place is another. -/
theorem Src.move {w : World} {k p : Nat} {F : Nat → Prop} {seed : List Nat} (h : Src w k F seed p) (q : Nat) (hq : q < 18446744073709551616) (z : Int) (hz : z = (q : Int)) : Src (w.setCell ⟨k, 146, none⟩ (.int .u64 z)) k F seed q := by
  subst hz
  refine ⟨h.low, hq, h.foot, ?_⟩
  have := h.blk.set 146 (.int .u64 (q : Int)) (by rw [srcC_length]; omega)
  have e : (srcC seed p).set 146 (.int .u64 (q : Int)) = srcC seed q := by
    unfold srcC
    rw [List.set_append_right _ _ (by rw [mC_length]; omega), mC_length]
    rfl
  rw [e] at this
  exact this
/-- The first bytes of eight, and then 0. -/
def upTo (i j : Nat) : List Nat := (be8 i).take j ++ List.replicate (8 - j) 0
theorem upTo_length (i j : Nat) (h : j ≤ 8) : (upTo i j).length = 8 := by
  rw [upTo, List.length_append, List.length_take, be8_length, List.length_replicate]
  omega
theorem upTo_all (i : Nat) : upTo i 8 = be8 i := by
  rw [upTo, List.take_of_length_le (by rw [be8_length]; exact Nat.le_refl _)]
  simp
theorem upTo_set (i j : Nat) (h : j < 8) : (upTo i j).set j (i / 2 ^ (56 - 8 * j) % 256) = upTo i (j + 1) := by
  have l : ((be8 i).take j).length = j := by rw [List.length_take, be8_length]; omega
  unfold upTo
  rw [List.set_append_right _ _ (by omega), l, Nat.sub_self, be8_at h, show 8 - j = 8 - (j + 1) + 1 by omega, List.replicate_succ, List.set_cons_zero, List.append_assoc]
  rfl
theorem u_b8a : Tryd.prog.underlying 121 = some (.array 8 5) := by kernel_rfl
set_option maxRecDepth 20000 in
set_option maxHeartbeats 4000000 in
theorem smark_fun {seed : List Nat} {F : Nat → Prop} {k p : Nat} (i : Nat) (hi : i < 18446744073709551616) (w : World) (hs : Src w k F seed p) (hT : KTab w) :
    Calls Tryd.prog 78 #[ptr k, .int .u64 (i : Int)] w fun e w' => e = .returned (vB (blkS seed i)) ∧ Below w.heap.size w w' := by
  have W1 : Hid _ := mwrite_fun (fitS seed) (fitS_low hs.low) [] (be8 i) (by simp) (be8_low i) (by rw [be8_length]; decide)
  rw [List.nil_append] at W1
  have S1 : Hid (∀ w, KTab w → Calls Tryd.prog 86 #[mV (fitS seed) (be8 i)] w fun e w' => e = .returned (vB (blkS seed i)) ∧ Below w.heap.size w w') := msum_fun (fitS seed) (fitS_low hs.low) (be8 i) (be8_low i)
  have ID : Hid _ := info_d32.trans (congrArg some (show 32 = ((blkS seed i).map b8).length by rw [List.length_map, blkS_length]))
  have MK : Hid ((blkS seed i).length = 32) := blkS_length _ _
  have RK : Hid (∀ W, Below w.heap.size w W → W.rangeAt k 0 (mC (fitS seed) [])) := fun W hW => (hs.up hW hs.blk.lt).key
  have IM : Hid _ := info_mst.trans (congrArg some (mC_length (fitS seed) []).symm)
  have HT : Hid (∀ W, Below w.heap.size w W → KTab W) := fun W hW => hT.up hW hT.pos
  have HE : Hid (mV (fitS seed) [] = .agg (mC (fitS seed) []).toArray) := rfl
  obtain ⟨ds, hu, hr⟩ := u_mst
  obtain ⟨x0, x1, x2⟩ := al2 w #[Value.int IntKind.u8 0, Value.int IntKind.u8 0, Value.int IntKind.u8 0, Value.int IntKind.u8 0, Value.int IntKind.u8 0, Value.int IntKind.u8 0, Value.int IntKind.u8 0, Value.int IntKind.u8 0, Value.int IntKind.u8 0, Value.int IntKind.u8 0, Value.int IntKind.u8 0, Value.int IntKind.u8 0, Value.int IntKind.u8 0, Value.int IntKind.u8 0, Value.int IntKind.u8 0, Value.int IntKind.u8 0, Value.int IntKind.u8 0, Value.int IntKind.u8 0, Value.int IntKind.u8 0, Value.int IntKind.u8 0, Value.int IntKind.u8 0, Value.int IntKind.u8 0, Value.int IntKind.u8 0, Value.int IntKind.u8 0, Value.int IntKind.u8 0, Value.int IntKind.u8 0, Value.int IntKind.u8 0, Value.int IntKind.u8 0, Value.int IntKind.u8 0, Value.int IntKind.u8 0, Value.int IntKind.u8 0, Value.int IntKind.u8 0] #[Value.int IntKind.u8 0, Value.int IntKind.u8 0, Value.int IntKind.u8 0, Value.int IntKind.u8 0, Value.int IntKind.u8 0, Value.int IntKind.u8 0, Value.int IntKind.u8 0, Value.int IntKind.u8 0] 109 121
  have X0 : Hid (Blk _ _ ((List.replicate 32 0).map b8)) := x0
  have X1 : Hid (Blk _ _ ((upTo i 0).map b8)) := x1
  have X2 : Hid (Below _ _ _) := x2
  have HI : Hid (i < 18446744073709551616) := hi
  rw [HE.out] at W1
  clear hs hT x0 x1 x2 HE
  generalize mC (fitS seed) [] = mc at *
  generalize mV (fitS seed) (be8 i) = m2 at *
  generalize blkS seed i = mk at *
  go_enter Tryd.func78, Tryd.ntmps78
  go_wp2_with fail
  generalize World.alloc (w.alloc _) _ = w1 at *
  go_loopw [7] (fun x wr => ∃ j : Nat, j ≤ 8 ∧ x = .int .i64 (j : Int) ∧ Hid (Blk wr w.heap.size ((List.replicate 32 0).map b8)) ∧ Hid (Blk wr (w.heap.size + 1) ((upTo i j).map b8)) ∧ Hid (Below w.heap.size w wr)) (fun x _ => 8 - (intOf x).toNat)
  case atStart => exact ⟨0, by omega, rfl, X0, X1, X2⟩
  case round =>
    clear X0 X1 X2
    obtain ⟨j, hj, rfl, X0, X1, X2⟩ := hrel
    by_cases hj8 : j < 8
    · have j1 : (j : Int) < 8 := by omega
      have cj := X1.out.cell j (b8 ((upTo i j).getD j 0)) (by simp [List.getD_eq_getElem?_getD, upTo_length i j hj, hj8])
      have zj := X1.out.fz j
      have XS : Hid _ := X1.out.set j (b8 (i / 2 ^ (56 - 8 * j) % 256)) (by rw [List.length_map, upTo_length i j hj]; exact hj8)
      rw [← List.map_set, upTo_set i j hj8] at XS
      have X0' : Hid _ := X0.out.apart1 (k' := w.heap.size + 1) (o := j) (v := b8 (i / 2 ^ (56 - 8 * j) % 256)) (by omega)
      have X2' : Hid _ := X2.out.setCell (p := ⟨w.heap.size + 1, j, none⟩) (Nat.le_succ _) (b8 (i / 2 ^ (56 - 8 * j) % 256))
      clear X0 X1 X2
      go_wp2_with fail
      go_roundw
      case rel => exact ⟨j + 1, by omega, by first | rfl | go_num, X0', XS, X2'⟩
      case measure => simp [intOf]; omega
    · obtain rfl : j = 8 := by omega
      rw [upTo_all] at X1
      have SD : Hid (∀ W, _) := fun W => slice_all u_b8a info_u8 (by decide) (w.heap.size + 1) 0 W
      clear hj8 hj
      go_wp2_with fail
      refine wp_region_monoSE 7 [MP.eq (.pointer (some ⟨k, 0, none⟩)), MP.eq (.pointer (some ⟨k, 0, none⟩)), MP.eq (.pointer (some ⟨k, 0, none⟩)), MP.eq (.agg mc.toArray), MP.eq (.slice (some ⟨w.heap.size + 1, 0, none⟩) 8 8), MP.eq (m2), MP.eq (vB mk)] (by kernel_rfl) (by kernel_rfl) rfl (by decide) (by kernel_rfl) ?_
      apply Exists.intro
      refine ⟨fun vals => ?_, ?_, fun vals4 w4 hb4 hF hO => ?_⟩
      · simp only [putsV, dstL, List.length_cons, List.length_nil, Nat.zero_add, Nat.reduceAdd, List.getElem?_cons_zero, List.getElem?_cons_succ, Option.bind_some, Act.put, List.setIfInBounds_toArray, List.set_cons_succ, List.set_cons_zero]
        rfl
      · refine ⟨?_, ?_, ?_, ?_, ?_, ?_, ?_, trivial⟩
        · intro vals W hW hw hd
          try simp [Region.binds] at hd
          refine ⟨by first | rfl | simp [Region.wanted, yielded, hd], ?_⟩
          simp [go_sem, hd]
          exact Below.refl _ _
        · intro vals W hW hw hd
          try simp [Region.binds] at hd
          refine ⟨by first | rfl | simp [Region.wanted, yielded, hd], ?_⟩
          simp [go_sem, hd]
          exact Below.refl _ _
        · intro vals W hW hw hd
          try simp [Region.binds] at hd
          refine ⟨by first | rfl | simp [Region.wanted, yielded, hd], ?_⟩
          simp [go_sem, hd]
          exact Below.refl _ _
        · intro vals W hW hw hd
          try simp [Region.binds] at hd
          refine ⟨by first | rfl | simp [Region.wanted, yielded, hd], ?_⟩
          exact yields_load 104 (.tmp 21) rfl k 0 hd mc _ (RK.out W (X2.out.trans (hW.out.mono X2.out.size))) hu hr IM.out rfl
        · intro vals W hW hw hd
          try simp [Region.binds] at hd
          refine ⟨by first | rfl | simp [Region.wanted, yielded, hd], ?_⟩
          simp [go_sem, hd, SD.out W]
          exact Below.refl _ _
        · intro vals W hW hw hd
          try simp [Region.binds] at hd
          refine ⟨by first | rfl | simp [Region.wanted, yielded, hd], ?_⟩
          simp [go_sem, hd]
          exact (W1.out _ W (By.of_blk (X1.out.up hW.out X1.out.lt) (be8_length i)) (HT.out W (X2.out.trans (hW.out.mono X2.out.size)))).mono fun e w' ⟨he, hb⟩ => ⟨_, he, rfl, hb⟩
        · intro vals W hW hw hd
          try simp [Region.binds] at hd
          refine ⟨by first | rfl | simp [Region.wanted, yielded, hd], ?_⟩
          simp [go_sem, hd]
          exact (S1.out W (HT.out W (X2.out.trans (hW.out.mono X2.out.size)))).mono fun e w' ⟨he, hb⟩ => ⟨_, he, rfl, hb⟩
      obtain ⟨f0, f1, f2, f3, f4, f5, f6, _⟩ := hF
      simp only [MP.eq_p] at f0 f1 f2 f3 f4 f5 f6
      rw [f0, f1, f2, f3, f4, f5, f6]
      simp only [List.drop_succ_cons, List.drop_zero]
      have E0 : Hid (Blk w4 w.heap.size ((List.replicate 32 0).map b8)) := X0.out.up hb4.out X0.out.lt
      have D4 : Hid (Below w.heap.size w w4) := X2.out.trans (hb4.out.mono X2.out.size)
      clear f0 f1 f2 f3 f4 f5 f6 hb4 hO X0 X1 X2 W1 S1 HT RK SD
      have T4 : Hid (w4.there w.heap.size 0 (mk.map b8).length) := E0.out.there (by rw [List.length_map, MK.out]; simp)
      go_wp2_with (refine wp_store_eq rfl 109 (.tmp 4) (.tmp 25) rfl w.heap.size 0 (mk.map b8) rfl rfl T4.out ID.out (one_b8 _) ?_)
      intro w5 hw5
      go_wp2_with fail
      refine bodyPost_ret (v := vB mk) ?_ rfl ⟨rfl, ?_⟩
      · rw [hw5.out]
        exact results_cell (b := w.heap.size) rfl rfl (World.rangeAt_setCells_same _ _ _ _ T4.out) u_d32 rfl ID.out
      · rw [hw5.out]
        exact below_setCells _ _ _ D4.out (Nat.le_refl _)
end Go.Proofs.YtdcpicbkemmakaaDoor

/- Rows of bytes that fill a block of their own. -/
namespace Go.Proofs.YtdcpicbkemmakaaDoor
open Go.RowKit
set_option linter.unusedSimpArgs false
/-- Block g is a row of these bytes, none of it frozen. -/
def RowB (w : World) (g : Nat) (t : TypeId) (xs : List Nat) : Prop := w.heap[g]? = some (.cells (xs.map b8).toArray t (0, 0))
theorem RowB.blk {w : World} {g : Nat} {t : TypeId} {xs : List Nat} (h : RowB w g t xs) : Blk w g (xs.map b8) := by
  refine ⟨(Array.getElem?_eq_some_iff.1 h).1, fun j v hv => ?_, fun j => ?_⟩
  · rw [cell_of_row _ _ j _ t _ h]; simpa using hv
  · unfold World.frozen?
    rw [h]
    simp
theorem RowB.lt {w : World} {g : Nat} {t : TypeId} {xs : List Nat} (h : RowB w g t xs) : g < w.heap.size := (Array.getElem?_eq_some_iff.1 h).1
theorem RowB.up {W w1 : World} {g B : Nat} {t : TypeId} {xs : List Nat} (h : RowB W g t xs) (hb : Below B W w1) (hB : g < B) : RowB w1 g t xs := (hb.block g hB).trans h
theorem RowB.ob {w : World} {g B n : Nat} {xs : List Nat} (h : RowB w g 5 xs) (hB : B ≤ g) (hn : xs.length = n) (hz : n ≤ 281474976710656) : Ob w B (.slice (some ⟨g, 0, none⟩) n n) xs := by
  subst hn
  refine ⟨by simp, .inr ⟨g, xs.length, (xs.map b8).toArray, rfl, hB, h, Nat.le_refl _, by unfold maxLen; omega, by simp, ?_⟩⟩
  rw [Nat.mul_one]
  exact List.take_of_length_le (by simp)
theorem Ob.row {w : World} {g B n : Nat} {xs : List Nat} (h : Ob w B (.slice (some ⟨g, 0, none⟩) n n) xs) (hn : xs.length = n) : RowB w g 5 xs := by
  subst hn
  rcases h.2 with ⟨e, _⟩ | ⟨g', cap, cur, e, _, hg, _, _, hs, ht⟩
  · cases e
  · simp only [Value.slice.injEq, Option.some.injEq, Addr.mk.injEq] at e
    obtain ⟨⟨rfl, _⟩, _, rfl⟩ := e
    rw [Nat.mul_one] at hs ht
    have : cur.toList = xs.map b8 := by rw [← ht, List.take_of_length_le (by rw [Array.length_toList, hs]; exact Nat.le_refl _)]
    unfold RowB
    rw [hg, ← this]
theorem RowB.put {w : World} {g o : Nat} {t : TypeId} {a b c b' : List Nat} (h : RowB w g t (a ++ (b ++ c))) (ho : o = a.length) (hl : b'.length = b.length) : RowB (w.setCells g o (b'.map b8)) g t (a ++ (b' ++ c)) := by
  subst ho
  unfold RowB at *
  rw [List.map_append, List.map_append] at *
  have := heap_setCells_at g t (0, 0) (b'.map b8) (a.map b8) (b.map b8) (c.map b8) w h (by simpa using hl.symm)
  rw [List.length_map] at this
  exact this
theorem RowB.apart {w : World} {g k o : Nat} {t : TypeId} {xs : List Nat} {vs : List Value} (h : RowB w g t xs) (hk : g ≠ k) : RowB (w.setCells k o vs) g t xs := (heap_setCells_off k g hk vs o w).trans h
theorem RowB.apart1 {w : World} {g k o : Nat} {t : TypeId} {xs : List Nat} {v : Value} (h : RowB w g t xs) (hk : g ≠ k) : RowB (w.setCell ⟨k, o, none⟩ v) g t xs := h.apart (vs := [v]) hk
theorem RowB.by {w : World} {g n : Nat} {t : TypeId} {xs : List Nat} (h : RowB w g t xs) (hl : xs.length = n) : By w (.slice (some ⟨g, 0, none⟩) n n) xs := by
  subst hl
  refine By.of_cells (Nat.le_refl _) fun j hj => ?_
  rw [Nat.zero_add]
  exact h.blk.cell j _ (by simp [List.getD_eq_getElem?_getD, hj])
end Go.Proofs.YtdcpicbkemmakaaDoor

/- The contract of draw.Source.fill: rows of bytes that are filled with what is drawn. -/
namespace Go.Proofs.YtdcpicbkemmakaaDoor
open Go.RowKit
set_option linter.unusedSimpArgs false
/-- Nothing but blocks k and g, and what is new, is another. -/
structure Fr2 (w : World) (k g : Nat) (w' : World) : Prop where
  os : w'.os = w.os
  tape : w'.tape = w.tape
  output : w'.output = w.output
  size : w.heap.size ≤ w'.heap.size
  block : ∀ j, j < w.heap.size → j ≠ k → j ≠ g → w'.heap[j]? = w.heap[j]?
theorem Fr2.refl (w : World) (k g : Nat) : Fr2 w k g w := ⟨rfl, rfl, rfl, Nat.le_refl _, fun _ _ _ _ => rfl⟩
theorem Fr2.then {w a b : World} {k g : Nat} (h : Fr2 w k g a) (hb : Below a.heap.size a b) : Fr2 w k g b :=
  ⟨hb.os.trans h.os, hb.tape.trans h.tape, hb.output.trans h.output, Nat.le_trans h.size hb.size, fun j hj hk hg => (hb.block j (Nat.lt_of_lt_of_le hj h.size)).trans (h.block j hj hk hg)⟩
theorem Fr2.set {w a : World} {k g : Nat} (h : Fr2 w k g a) (j o : Nat) (vs : List Value) (hj : j = k ∨ j = g) : Fr2 w k g (a.setCells j o vs) := by
  have hb := below_setCells (B := 0) (k := j) vs o a (Below.refl 0 a) (Nat.zero_le _)
  refine ⟨hb.os.trans h.os, hb.tape.trans h.tape, hb.output.trans h.output, Nat.le_trans h.size hb.size, fun i hi hk hg => ?_⟩
  rw [heap_setCells_off j i (by rintro rfl; exact hj.elim hk hg)]
  exact h.block i hi hk hg
theorem Fr2.below {w a : World} {k g B : Nat} (h : Fr2 w k g a) (hB : B ≤ w.heap.size) (hk : B ≤ k) (hg : B ≤ g) : Below B w a :=
  ⟨h.os, h.tape, h.output, h.size, fun j hj => h.block j (by omega) (by omega) (by omega)⟩
/-- The second block is new. -/
theorem Fr2.fr {w0 w a : World} {k g : Nat} (h : Fr2 w k g a) (h0 : Below w0.heap.size w0 w) (hg : w0.heap.size ≤ g) : Fr w0 k a :=
  ⟨h.os.trans h0.os, h.tape.trans h0.tape, h.output.trans h0.output, Nat.le_trans h0.size h.size, fun j hj hk => (h.block j (Nat.lt_of_lt_of_le hj h0.size) (fun e => hk (congrArg some e)) (by omega)).trans (h0.block j hj)⟩
theorem drawS_in (seed : List Nat) (P m : Nat) (hP : P < 18446744073709551616) (h : P % 32 + m ≤ 32) : drawS seed P m = ((blkS seed (P / 32)).drop (P % 32)).take m := by
  apply List.ext_getElem?
  intro i
  rcases Nat.lt_or_ge i m with hi | hi
  · have e1 : (P + i) % 18446744073709551616 = P + i := Nat.mod_eq_of_lt (by omega)
    have e2 : (P + i) / 32 = P / 32 := by omega
    have e3 : (P + i) % 32 = P % 32 + i := by omega
    have hl : P % 32 + i < (blkS seed (P / 32)).length := by rw [blkS_length]; omega
    simp [drawS, hi, e1, byteS, e2, e3, List.getD_eq_getElem?_getD, hl, List.getElem?_take]
  · rw [List.getElem?_eq_none (by rw [drawS_length]; exact hi), List.getElem?_eq_none (by rw [List.length_take]; omega)]
def lenSl : Value → Nat
  | .slice _ n _ => n
  | _ => 0
/-- What is left of a row of bytes behind the first n, as a value. -/
theorem wp_cutV {ops : Array Oper} {rest : List Oper} {o : Oper} {act : Act} {Q : Exit → Act → World → Prop} {w : World} (hgd : o.guard = none) (x l : Operand)
    (ho : o.op = .slice 25 x (some l) none none) (g f m n : Nat) (k : IntKind) (z : Int) (hx : act.eval x = .slice (some ⟨g, f, none⟩) m m) (hl : act.eval l = .int k z) (hz : z = (n : Int)) (hn : n ≤ m)
    (h : ∀ f', (n < m → f' = f + n) → wpList Tryd.prog ops Q rest (act.put o.dst (.slice (some ⟨g, f', none⟩) (m - n) (m - n))) w) : wpList Tryd.prog ops Q (o :: rest) act w := by
  subst hz
  refine wpList_plain hgd fun K hK2 => ?_
  have e : (Instr.sliceAt 25 (.slice (some ⟨g, f, none⟩) m m) (some (.int k (n : Int))) none none).run Tryd.prog w = .ok (sliced (some ⟨g, f, none⟩) n m m 1) w := by
    rw [run_sliceAt_slice (h := slice_elem), run_slice_l (ht := slice_elem) (h0 := by omega) (h1 := by omega), elem_bytes, size_u8]
    simp
  have e2 : ∃ f', sliced (some ⟨g, f, none⟩) n m m 1 = .slice (some ⟨g, f', none⟩) (m - n) (m - n) ∧ (n < m → f' = f + n) := by
    unfold sliced
    by_cases hc : m = n
    · exact ⟨f, by rw [if_pos hc], fun h => by omega⟩
    · exact ⟨f + n, by rw [if_neg hc, Nat.mul_one]; simp [Addr.add_lit], fun _ => rfl⟩
  obtain ⟨f', e3, e4⟩ := e2
  unfold Oper.wp
  simp [execOp, ho, hx, hl, e, e3, Result.andThen]
  exact hK2 _ _ (h f' e4)
set_option maxRecDepth 20000 in
set_option maxHeartbeats 4000000 in
theorem fill_fun {seed : List Nat} {F : Nat → Prop} {k p : Nat} (g n : Nat) (t : TypeId) (ys : List Nat) (hy : ys.length = n) (hn : n ≤ 4096) (w : World) (hs : Src w k F seed p) (hR : RowB w g t ys) (hkg : g ≠ k) (k0 : 0 < k) (g0 : 0 < g) (hT : KTab w) :
    Calls Tryd.prog 70 #[ptr k, .slice (some ⟨g, 0, none⟩) n n] w fun e w' => e = .returned (.tuple #[]) ∧ Src w' k F seed ((p + n) % 18446744073709551616) ∧ RowB w' g t (drawS seed p n) ∧ Fr2 w k g w' := by
  have HY : Hid (ys.length = n) := hy
  have KG : Hid (g ≠ k) := hkg
  have HT : Hid (∀ W, Fr2 w k g W → KTab W) := fun W hW => hT.up (hW.below (B := 1) (by have := hT.pos; omega) (by omega) (by omega)) (by omega)
  have HP : Hid (p < 18446744073709551616) := hs.small
  have R0 : Hid (RowB w g t (drawS seed p 0 ++ ys.drop 0)) := hR
  have S0 : Hid (Src w k F seed ((p + 0) % 18446744073709551616)) := by
    have h : (p + 0) % 18446744073709551616 = p := Nat.mod_eq_of_lt hs.small
    rw [h]; exact hs
  clear hs hR hT hy hkg k0 g0
  go_enter Tryd.func70, Tryd.ntmps70
  go_wp2_with fail
  go_loopw [1] (fun b wr => ∃ d m o : Nat, d + m = n ∧ b = .slice (some ⟨g, o, none⟩) m m ∧ Hid (0 < m → o = d) ∧ Hid (RowB wr g t (drawS seed p d ++ ys.drop d)) ∧ Hid (Src wr k F seed ((p + d) % 18446744073709551616)) ∧ Hid (Fr2 w k g wr)) (fun b _ => lenSl b)
  case atStart => exact ⟨0, n, 0, by omega, rfl, fun _ => rfl, R0, S0, Fr2.refl w k g⟩
  case round =>
    clear R0 S0
    obtain ⟨d, m, o, hdm, rfl, ho, R1, S1, F1⟩ := hrel
    by_cases hm : 0 < m
    · have hm1 : (0 : Int) < (m : Int) := by omega
      have hod := ho.out hm
      subst hod
      obtain ⟨P, hP⟩ : ∃ P, P = (p + o) % 18446744073709551616 := ⟨_, rfl⟩
      rw [← hP] at S1
      obtain ⟨cP, zP⟩ := S1.out.at
      have P64 : P < 18446744073709551616 := by omega
      obtain ⟨q, hq⟩ : ∃ q, q = P / 32 := ⟨_, rfl⟩
      obtain ⟨r, hr⟩ : ∃ r, r = P % 32 := ⟨_, rfl⟩
      have wq : IntKind.u64.wrap ((P : Int).tdiv 32) = (q : Int) := by rw [IntKind.wrap_u64, Int.tdiv_eq_ediv_of_nonneg (by omega)]; omega
      have wq' : (P : Int) / 32 = (q : Int) := by omega
      have wr1 : (P : Int).tmod 32 = (r : Int) := by rw [Int.tmod_eq_emod_of_nonneg (by omega)]; omega
      have wr2 : (P : Int) % 32 = (r : Int) := by omega
      have r32 : r < 32 := by omega
      have rI : (r : Int) ≤ 32 := by omega
      have q64 : q < 18446744073709551616 := by omega
      have MQ : Hid _ := smark_fun q q64 wr S1.out (HT.out wr F1.out)
      obtain ⟨c, hc⟩ : ∃ c, c = min (32 - r) m := ⟨_, rfl⟩
      have DS : Hid (drawS seed p (o + c) = drawS seed p o ++ ((blkS seed q).drop r).take m) := by
        rw [drawS_add, ← hP, drawS_in seed P c P64 (by omega), ← hq, ← hr]
        congr 1
        have hl : ((blkS seed q).drop r).length = 32 - r := by rw [List.length_drop, blkS_length]
        rcases Nat.le_total (32 - r) m with h | h
        · rw [List.take_of_length_le (by omega), List.take_of_length_le (by omega)]
        · rw [show c = m by omega]
      have BL : Hid ((blkS seed q).length = 32) := blkS_length seed q
      have HC : Hid (c = min (32 - r) m) := hc
      obtain ⟨PN, hPN⟩ : ∃ PN, PN = (P + c) % 18446744073709551616 := ⟨_, rfl⟩
      have HN : Hid (PN = (p + (o + c)) % 18446744073709551616) := by show _ = _; omega
      have wn : IntKind.u64.wrap ((P : Int) + (c : Int)) = (PN : Int) := by rw [IntKind.wrap_u64]; omega
      have N64 : Hid (PN < 18446744073709551616) := by show _ < _; omega
      have wc : IntKind.u64.wrap (c : Int) = (c : Int) := by rw [IntKind.wrap_u64]; omega
      clear hq hr hP hc ho hPN
      generalize blkS seed q = mk at *
      have ID : Hid _ := info_d32.trans (congrArg some (show 32 = (mk.map b8).length by rw [List.length_map, BL.out]))
      go_wp2_with fail
      refine Calls.mono MQ.out ?_
      rintro e w1 ⟨rfl, hb1⟩
      have R2 : Hid (RowB w1 g t (drawS seed p o ++ ys.drop o)) := R1.out.up hb1 R1.out.lt
      have S2 : Hid (Src w1 k F seed P) := S1.out.up hb1 S1.out.blk.lt
      have F2 : Hid (Fr2 w k g w1) := F1.out.then hb1
      clear R1 S1 F1 hb1 MQ cP zP
      have T1 : Hid (∀ C t, C.size = 32 → World.there (w1.alloc (.cells C t)) w1.heap.size 0 (mk.map b8).length) := fun C t hC => (al1 w1 C t).1.there (by rw [List.length_map, BL.out, Array.length_toList, hC]; omega)
      go_wp2_with (refine wp_store_eq rfl 109 (.tmp 4) (.tmp 15) rfl w1.heap.size 0 (mk.map b8) rfl rfl (T1.out _ _ rfl) ID.out (one_b8 _) ?_)
      intro w2 hw2
      obtain ⟨b2, h2⟩ : Blk w2 w1.heap.size (mk.map b8) ∧ Below w1.heap.size w1 w2 := by
        rw [hw2.out]
        exact alst w1 _ _ _ (by rw [List.length_map, BL.out]; rfl)
      have R3 : Hid (RowB w2 g t (drawS seed p o ++ ys.drop o)) := R2.out.up h2 R2.out.lt
      have S3 : Hid (Src w2 k F seed P) := S2.out.up h2 S2.out.blk.lt
      have F3 : Hid (Fr2 w k g w2) := F2.out.then h2
      have HG : Hid (g ≠ w1.heap.size ∧ k ≠ w1.heap.size) := ⟨Nat.ne_of_lt R2.out.lt, Nat.ne_of_lt S2.out.blk.lt⟩
      obtain ⟨cP, zP⟩ := S3.out.at
      have BY : Hid (By w2 (.slice (some ⟨w1.heap.size, r, none⟩) (32 - r) (32 - r)) (mk.drop r)) := by
        have e : (mk.drop r).length = 32 - r := by rw [List.length_drop, BL.out]
        rw [← e]
        refine By.of_cells (Nat.le_refl _) fun j hj => b2.cell (r + j) _ ?_
        have hlt : r + j < mk.length := by rw [BL.out]; omega
        simp [List.getD_eq_getElem?_getD, hlt]
      clear hw2 b2 h2 R2 S2 F2 T1
      generalize w1.heap.size = h at *
      have T3 : Hid (w2.there g o (min (mk.drop r).length m)) := R3.out.blk.there (by
        have := HY.out
        simp only [List.length_map, List.length_append, drawS_length, List.length_drop]
        omega)
      have LD : Hid ((mk.drop r).length = 32 - r) := by show _ = _; rw [List.length_drop, BL.out]
      have C0 : Hid (min (mk.drop r).length m = c) := by show _ = _; rw [LD.out, HC.out]
      generalize mk.drop r = xs at *
      go_wp2_with (refine wp_copyB rfl (.tmp 16) (.tmp 22) rfl g o m m (.slice (some ⟨h, r, none⟩) (32 - r) (32 - r)) xs rfl rfl BY.out (by rw [LD.out]; omega) T3.out ?_)
      rw [C0.out]
      intro w3 hw3
      have LT : Hid ((xs.take m).length = c) := by show _ = _; rw [List.length_take, ← C0.out]; omega
      have R4 : Hid (RowB w3 g t (drawS seed p (o + c) ++ ys.drop (o + c))) := by
        have h0 := R3.out
        rw [← List.take_append_drop c (ys.drop o), List.drop_drop] at h0
        rw [hw3.out, DS.out, List.append_assoc, ← List.map_take]
        refine h0.put (drawS_length _ _ _).symm ?_
        rw [LT.out, List.length_take, List.length_drop]
        have := HY.out
        have := HC.out
        omega
      have S4 : Hid (Src w3 k F seed P) := S3.out.stay (by rw [hw3.out]; exact heap_setCells_off g k KG.out.symm _ _ _)
      have F4 : Hid (Fr2 w k g w3) := by
        rw [hw3.out]
        exact F3.out.set g _ _ (.inr rfl)
      have CM : Hid (c ≤ m ∧ 0 < c) := by show _ ∧ _; have := HC.out; omega
      obtain ⟨cP, zP⟩ := S4.out.at
      have S5 : Hid (Src (w3.setCell ⟨k, 146, none⟩ (.int .u64 (PN : Int))) k F seed PN) := S4.out.move PN N64.out _ rfl
      have R5 : Hid (RowB (w3.setCell ⟨k, 146, none⟩ (.int .u64 (PN : Int))) g t (drawS seed p (o + c) ++ ys.drop (o + c))) := (heap_setCells_off k g KG.out [.int .u64 (PN : Int)] 146 w3).trans R4.out
      have F5 : Hid (Fr2 w k g (w3.setCell ⟨k, 146, none⟩ (.int .u64 (PN : Int)))) := F4.out.set k 146 [.int .u64 (PN : Int)] (.inl rfl)
      clear hw3 R3 S3 F3 R4 S4 F4 BY T3 DS
      rw [HN.out] at S5
      go_wp2_with (refine wp_cutV rfl (.tmp 24) (.tmp 25) rfl g o m c .i64 _ rfl rfl rfl CM.out.1 ?_)
      intro f' hf'
      have HF : Hid (c < m → f' = o + c) := hf'
      clear hf'
      go_wp2_with fail
      go_roundw
      case rel =>
        refine ⟨o + c, m - c, f', ?_, rfl, fun h => HF.out (by omega), R5, ?_, F5⟩
        · have := CM.out; omega
        · rw [← HN.out] at S5 ⊢
          exact S5
      case measure =>
        have := CM.out
        simp [lenSl]
        omega
    · obtain rfl : m = 0 := by omega
      obtain rfl : d = n := by omega
      have ye : Hid (ys.drop d = []) := List.drop_eq_nil_of_le (by rw [HY.out]; exact Nat.le_refl _)
      rw [ye.out, List.append_nil] at R1
      go_wp2_with fail
      refine bodyPost_end (results_none rfl _ _ _) rfl ⟨rfl, S1.out, R1.out, F1.out⟩
end Go.Proofs.YtdcpicbkemmakaaDoor

/- The contracts of draw.New, At, Source.Place, Bytes and Skip. -/
namespace Go.Proofs.YtdcpicbkemmakaaDoor
open Go.RowKit
set_option linter.unusedSimpArgs false
theorem fill_one (pl : Nat → Option (Nat × Nat)) (X : Array Value) (i off : Nat) (k : IntKind) (z : Int) (y : Value) (a c : List Value) (rest : List (Nat × Value)) (hp : pl i = some (off, 1)) (hX : X.toList = a ++ ([y] ++ c)) (ha : a.length = off) :
    Instr.fill pl X ((i, Value.int k z) :: rest) = Instr.fill pl (a ++ ([Value.int k z] ++ c)).toArray rest := by
  have hs : X.size = a.length + (1 + c.length) := by
    rw [← Array.length_toList, hX]
    simp [Nat.add_comm]
  rw [Instr.fill, hp]
  have hc : (Value.int k z).cells = ([Value.int k z] : List Value).toArray := rfl
  simp only [hc, List.size_toArray]
  rw [if_neg (by simp; omega)]
  congr 1
  apply Array.ext'
  rw [foldl_zip]
  exact lay_foldl off [.int k z] 0 X a [y] c hX (by omega) rfl
theorem src_places : ((Tryd.prog.underlying 107).bind fun d => match d with | .struct fields => fields.toList.mapM (fun f => (Tryd.prog.info? f.type).map fun i => (f.offset, i.size)) | _ => none) = some [(0, 146), (146, 1)] := by kernel_rfl
theorem info_srcz : (Tryd.prog.info? 107).map (·.zero) = some (some (.agg ((zS ++ zS) ++ [Value.int .u64 0]).toArray)) := by kernel_rfl
theorem built_src (seed : List Nat) (p : Nat) : Tryd.prog.built 107 [(0, mV (fitS seed) []), (1, .int .u64 (p : Int))] = some (srcC seed p).toArray := by
  have hz : (zS ++ zS).length = 146 := by rw [List.length_append, zS_length]
  rw [built_of info_srcz src_places, mV, fill_step _ _ 0 0 (mC (fitS seed) []) [] (zS ++ zS) [.int .u64 0] _ (by rw [mC_length]; rfl) (by simp) rfl (by rw [hz, mC_length]),
    fill_one _ _ 1 146 .u64 (p : Int) (.int .u64 0) (mC (fitS seed) []) [] _ rfl (by simp) (mC_length _ _), Instr.fill]
  simp [srcC]
theorem wp_build2 {ops : Array Oper} {rest : List Oper} {o : Oper} {a : Act} {Q : Exit → Act → World → Prop} {w : World} (hgd : o.guard = none) (t : TypeId) (x y : Operand) (ho : o.op = .build t #[(0, x), (1, y)]) (u v : Value) (hx : a.eval x = u) (hy : a.eval y = v) (cs : Array Value) (hb : Tryd.prog.built t [(0, u), (1, v)] = some cs)
    (h : wpList Tryd.prog ops Q rest (a.put o.dst (.agg cs)) w) : wpList Tryd.prog ops Q (o :: rest) a w := by
  refine wpList_plain hgd fun K hK => ?_
  have e : (Instr.build t ((#[(0, x), (1, y)] : Array (Nat × Operand)).map fun x => (x.fst, a.eval x.snd))).run Tryd.prog w = .ok (.agg cs) w := run_build w t _ _ (by simpa [hx, hy] using hb)
  unfold Oper.wp
  simp only [execOp, ho, Sem.run_bind, e, Result.andThen_ok, Sem.run_pure]
  exact hK _ _ h
set_option maxRecDepth 20000 in
set_option maxHeartbeats 2000000 in
theorem sat_fun (seed : List Nat) (ls : ∀ x ∈ seed, x < 256) (zs : seed.length ≤ 500000000000000) (p : Nat) (hp : p < 18446744073709551616) (v : Value) (w : World) (hv : By w v seed) (hT : KTab w) :
    Calls Tryd.prog 47 #[v, .int .u64 (p : Int)] w fun e w' => (∃ k, e = .returned (ptr k) ∧ w.heap.size ≤ k ∧ Src w' k (· = k) seed p) ∧ Below w.heap.size w w' := by
  have N1 : Hid _ := mnew_fun seed ls (by omega) v w hv hT
  have B1 : Hid _ := built_src seed p
  have FI : Hid (∀ W k, Blk W k (srcC seed p) → Src W k (· = k) seed p) := fun W k h => ⟨ls, hp, fun _ => Iff.rfl, h⟩
  clear hv hT ls zs hp
  generalize srcC seed p = sc at *
  generalize mV (fitS seed) [] = m1 at *
  go_enter Tryd.func47, Tryd.ntmps47
  go_wp2_with fail
  refine Calls.mono N1.out ?_
  rintro e w1 ⟨rfl, hb1⟩
  have D1 : Hid (Below w.heap.size w w1) := hb1
  obtain ⟨x0, x1⟩ := al1 w1 sc.toArray 107
  have X0 : Hid (Blk _ _ sc) := x0
  have X1 : Hid (Below _ _ _) := x1
  clear hb1 x0 x1 N1
  go_wp2_with (refine wp_build2 rfl 107 (.tmp 6) (.tmp 7) rfl _ _ rfl rfl _ B1.out ?_)
  go_ret
  exact ⟨⟨_, rfl, D1.out.size, FI.out _ _ X0.out⟩, D1.out.trans (X1.out.mono D1.out.size)⟩
theorem snew_fun (seed : List Nat) (ls : ∀ x ∈ seed, x < 256) (zs : seed.length ≤ 500000000000000) (v : Value) (w : World) (hv : By w v seed) (hT : KTab w) :
    Calls Tryd.prog 22 #[v] w fun e w' => (∃ k F, e = .returned (ptr k) ∧ w.heap.size ≤ k ∧ (∀ g, F g → w.heap.size ≤ g) ∧ Src w' k F seed 0) ∧ Below w.heap.size w w' := by
  have A1 : Hid _ := sat_fun seed ls zs 0 (by decide) v w hv hT
  clear hv hT ls zs
  go_enter Tryd.func22, Tryd.ntmps22
  go_wp2_with fail
  refine Calls.mono A1.out ?_
  rintro e w1 ⟨⟨k, rfl, hk, hs⟩, hb1⟩
  have HS : Hid (Src w1 k (· = k) seed 0) := hs
  have D1 : Hid (Below w.heap.size w w1) := hb1
  clear hs hb1
  go_wp2_with fail
  go_ret
  exact ⟨⟨k, (· = k), rfl, hk, fun g e => by rw [e]; exact hk, HS.out⟩, D1.out⟩
end Go.Proofs.YtdcpicbkemmakaaDoor
