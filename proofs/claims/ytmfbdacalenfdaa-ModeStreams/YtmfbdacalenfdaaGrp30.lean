/- Texts that were joined: RowB, MoSum. -/
import Derived.Test.YtmfbdacalenfdaaBs
import Derived.Test.YtmfbdacalenfdaaGrp0
import Derived.Test.YtmfbdacalenfdaaAeK
import Derived.Test.YtmfbdacalenfdaaMdMath
/- Rows of bytes that fill a block of their own. -/
namespace Go.Proofs.Ytmfbdacalenfdaa
open Go.RowKit
set_option linter.unusedSimpArgs false
/-- Block g is a row of these bytes, none of it frozen. -/
def RowB (w : World) (g : Nat) (t : TypeId) (xs : List Nat) : Prop := w.heap[g]? = some (.cells (xs.map b8).toArray t (0, 0))
theorem RowB.blk {w : World} {g : Nat} {t : TypeId} {xs : List Nat} (h : RowB w g t xs) : Blk w g (xs.map b8) := by
  refine ⟨(Array.getElem?_eq_some_iff.1 h).1, fun j v hv => ?_, fun j => ?_⟩
  · rw [cell_of_row _ _ j _ t _ h]; simpa using hv
  · unfold World.frozen?
    rw [h]
    simp
theorem RowB.lt {w : World} {g : Nat} {t : TypeId} {xs : List Nat} (h : RowB w g t xs) : g < w.heap.size := (Array.getElem?_eq_some_iff.1 h).1
theorem RowB.up {W w1 : World} {g B : Nat} {t : TypeId} {xs : List Nat} (h : RowB W g t xs) (hb : Below B W w1) (hB : g < B) : RowB w1 g t xs := (hb.block g hB).trans h
theorem RowB.ob {w : World} {g B n : Nat} {xs : List Nat} (h : RowB w g 5 xs) (hB : B ≤ g) (hn : xs.length = n) (hz : n ≤ 281474976710656) : Ob w B (.slice (some ⟨g, 0, none⟩) n n) xs := by
  subst hn
  refine ⟨by simp, .inr ⟨g, xs.length, (xs.map b8).toArray, rfl, hB, h, Nat.le_refl _, by unfold maxLen; omega, by simp, ?_⟩⟩
  rw [Nat.mul_one]
  exact List.take_of_length_le (by simp)
theorem Ob.row {w : World} {g B n : Nat} {xs : List Nat} (h : Ob w B (.slice (some ⟨g, 0, none⟩) n n) xs) (hn : xs.length = n) : RowB w g 5 xs := by
  subst hn
  rcases h.2 with ⟨e, _⟩ | ⟨g', cap, cur, e, _, hg, _, _, hs, ht⟩
  · cases e
  · simp only [Value.slice.injEq, Option.some.injEq, Addr.mk.injEq] at e
    obtain ⟨⟨rfl, _⟩, _, rfl⟩ := e
    rw [Nat.mul_one] at hs ht
    have : cur.toList = xs.map b8 := by rw [← ht, List.take_of_length_le (by rw [Array.length_toList, hs]; exact Nat.le_refl _)]
    unfold RowB
    rw [hg, ← this]
theorem RowB.put {w : World} {g o : Nat} {t : TypeId} {a b c b' : List Nat} (h : RowB w g t (a ++ (b ++ c))) (ho : o = a.length) (hl : b'.length = b.length) : RowB (w.setCells g o (b'.map b8)) g t (a ++ (b' ++ c)) := by
  subst ho
  unfold RowB at *
  rw [List.map_append, List.map_append] at *
  have := heap_setCells_at g t (0, 0) (b'.map b8) (a.map b8) (b.map b8) (c.map b8) w h (by simpa using hl.symm)
  rw [List.length_map] at this
  exact this
theorem RowB.apart {w : World} {g k o : Nat} {t : TypeId} {xs : List Nat} {vs : List Value} (h : RowB w g t xs) (hk : g ≠ k) : RowB (w.setCells k o vs) g t xs := (heap_setCells_off k g hk vs o w).trans h
theorem RowB.apart1 {w : World} {g k o : Nat} {t : TypeId} {xs : List Nat} {v : Value} (h : RowB w g t xs) (hk : g ≠ k) : RowB (w.setCell ⟨k, o, none⟩ v) g t xs := h.apart (vs := [v]) hk
theorem RowB.setB {w : World} {g : Nat} {t : TypeId} {xs : List Nat} (h : RowB w g t xs) (j y : Nat) : RowB (w.setCell ⟨g, j, none⟩ (b8 y)) g t (xs.set j y) := by
  unfold RowB at *
  rw [List.map_set]
  exact heap_setCell_at w g j (b8 y) (xs.map b8) t (0, 0) h
theorem RowB.by {w : World} {g n : Nat} {t : TypeId} {xs : List Nat} (h : RowB w g t xs) (hl : xs.length = n) : By w (.slice (some ⟨g, 0, none⟩) n n) xs := by
  subst hl
  refine By.of_cells (Nat.le_refl _) fun j hj => ?_
  rw [Nat.zero_add]
  exact h.blk.cell j _ (by simp [List.getD_eq_getElem?_getD, hj])
/-- A slice from a place on, told as a slice. -/
theorem sliced_at {g q i n c : Nat} (h : i < c) : sliced (some ⟨g, q, none⟩) i n c 1 = .slice (some ⟨g, q + i, none⟩) (n - i) (c - i) := by
  rw [sliced, if_neg (by omega), Nat.mul_one]
  simp [Addr.add_lit]
end Go.Proofs.Ytmfbdacalenfdaa

/- The contracts of mode.sum and mode.blockAt. -/
namespace Go.Proofs.Ytmfbdacalenfdaa
open Go.RowKit
set_option linter.unusedSimpArgs false
attribute [local go_sem] YieldsP execOp
attribute [local simp] MP.eq_p
set_option maxRecDepth 20000 in
set_option maxHeartbeats 1000000 in
theorem msum_fun (u t : List Nat) (hu : A.ok 16 u) (ht : A.ok 16 t) (w : World) : Calls Try.prog 37 #[aB u, aB t] w fun e w' => e = .returned (aB (A.addK u t)) ∧ Below w.heap.size w w' := by
  obtain ⟨old, hold⟩ : ∃ old : Nat → Nat, old = fun p => u.getD p 0 := ⟨_, rfl⟩
  obtain ⟨new, hnew⟩ : ∃ new : Nat → Nat, new = fun p => u.getD p 0 ^^^ t.getD p 0 := ⟨_, rfl⟩
  have XE : Hid (∀ i, bits .xor .u8 ((old i : Nat) : Int) ((t.getD i 0 : Nat) : Int) = ((new i : Nat) : Int)) := fun i => by
    rw [hold, hnew]
    exact g_xor (hu.at i) (ht.at i)
  have NE : Hid (A.addK u t = A.by_ 16 new) := by rw [hnew]; exact rfl
  rw [NE.out]
  have TL : Hid (t.length = 16) := ht.1
  obtain ⟨x0, xt, x1, x2⟩ := al3 w (u.map b8).toArray (t.map b8).toArray #[Value.int IntKind.u8 0, Value.int IntKind.u8 0, Value.int IntKind.u8 0, Value.int IntKind.u8 0, Value.int IntKind.u8 0, Value.int IntKind.u8 0, Value.int IntKind.u8 0, Value.int IntKind.u8 0, Value.int IntKind.u8 0, Value.int IntKind.u8 0, Value.int IntKind.u8 0, Value.int IntKind.u8 0, Value.int IntKind.u8 0, Value.int IntKind.u8 0, Value.int IntKind.u8 0, Value.int IntKind.u8 0] 23 23 23
  rw [show (u.map b8).toArray.toList = (A.midN 16 old new 0).map b8 by rw [A.midN_zero, hold, A.by_self hu.1]] at x0
  have X0 : Hid (Blk _ w.heap.size ((A.midN 16 old new 0).map b8)) := x0
  have XT : Hid (Blk _ (w.heap.size + 1) (t.map b8)) := xt
  have X1 : Hid (Blk _ (w.heap.size + 1 + 1) (zB 16)) := x1
  have X2 : Hid (Below w.heap.size w _) := x2
  clear x0 x1 x2 xt ht hu hold hnew NE
  go_enter Try.func37, Try.ntmps37
  go_wp2_with (simp only [zero_a16])
  generalize World.alloc (World.alloc (w.alloc _) _) _ = w1 at *
  go_loopw [6] (fun i wr => ∃ j : Nat, j ≤ 16 ∧ i = .int .i64 (j : Int) ∧ Hid (Blk wr w.heap.size ((A.midN 16 old new j).map b8)) ∧ Hid (Blk wr (w.heap.size + 1) (t.map b8)) ∧ Hid (Blk wr (w.heap.size + 1 + 1) (zB 16)) ∧ Hid (Below w.heap.size w wr)) (fun i _ => 16 - (intOf i).toNat)
  case atStart => exact ⟨0, by omega, rfl, X0, XT, X1, X2⟩
  case round =>
    clear X0 X1 X2 XT
    obtain ⟨j, hj, rfl, X0, XT, X1, X2⟩ := hrel
    by_cases hj1 : j < 16
    · have j1 : (j : Int) < 16 := by omega
      have wj : IntKind.i64.wrap ((j : Int) + 1) = (j : Int) + 1 := by rw [IntKind.wrap_i64]; omega
      have J1 : Hid (j < 16) := hj1
      have c0 : Hid (∀ W, Below wr.heap.size wr W → W.cell? ⟨w.heap.size, j, none⟩ = some (b8 (old j))) := fun W hW => by
        have := (X0.out.up hW X0.out.lt).byte j (by rw [A.midN_length]; exact J1.out)
        rwa [A.midN_at old new J1.out (Nat.le_refl _)] at this
      have c1 : Hid (∀ W, Below wr.heap.size wr W → W.cell? ⟨w.heap.size + 1, j, none⟩ = some (b8 (t.getD j 0))) := fun W hW => (XT.out.up hW XT.out.lt).byte j (by rw [TL.out]; exact J1.out)
      have US : Hid (∀ W, Blk W w.heap.size ((A.midN 16 old new j).map b8) → Blk (W.setCell ⟨w.heap.size, j, none⟩ (b8 (new j))) w.heap.size ((A.midN 16 old new (j + 1)).map b8)) := fun W h => by
        rw [← A.midN_set old new J1.out]
        exact h.setB _ _ (by rw [A.midN_length]; exact J1.out)
      have xe := XE.out j
      generalize old j = oj at *
      generalize new j = nj at *
      generalize t.getD j 0 = tj at *
      clear hj hj1
      go_wp2_with fail
      refine wp_region_monoSE 8 [MP.eq (.int .i64 (j : Int)), MP.eq (.pointer (some ⟨w.heap.size, j, none⟩)), MP.eq (b8 oj), MP.eq (.int .i64 (j : Int)), MP.eq (.pointer (some ⟨w.heap.size + 1, j, none⟩)), MP.eq (b8 tj), MP.eq (b8 nj), MP.eq (.pointer (some ⟨w.heap.size, j, none⟩))] (by kernel_rfl) (by kernel_rfl) rfl (by decide) (by kernel_rfl) ?_
      apply Exists.intro
      refine ⟨fun vals => ?_, ?_, fun vals4 w4 hb4 hF hO => ?_⟩
      · simp only [putsV, dstL, List.length_cons, List.length_nil, Nat.zero_add, Nat.reduceAdd, List.getElem?_cons_zero, List.getElem?_cons_succ, Option.bind_some, Act.put, List.setIfInBounds_toArray, List.set_cons_succ, List.set_cons_zero]
        rfl
      · refine ⟨?_, ?_, ?_, ?_, ?_, ?_, ?_, ?_, trivial⟩
        · intro vals W hW hw hd
          try simp [Region.binds] at hd
          refine ⟨by first | rfl | simp [Region.wanted, yielded, hd], ?_⟩
          simp [go_sem, hd]
          exact Below.refl _ _
        · intro vals W hW hw hd
          try simp [Region.binds] at hd
          refine ⟨by first | rfl | simp [Region.wanted, yielded, hd], ?_⟩
          simp [go_sem, hd, j1]
          exact Below.refl _ _
        · intro vals W hW hw hd
          try simp [Region.binds] at hd
          refine ⟨by first | rfl | simp [Region.wanted, yielded, hd], ?_⟩
          have cc := c0.out W hW.out
          simp [go_sem, hd, cc]
          exact Below.refl _ _
        · intro vals W hW hw hd
          try simp [Region.binds] at hd
          refine ⟨by first | rfl | simp [Region.wanted, yielded, hd], ?_⟩
          simp [go_sem, hd]
          exact Below.refl _ _
        · intro vals W hW hw hd
          try simp [Region.binds] at hd
          refine ⟨by first | rfl | simp [Region.wanted, yielded, hd], ?_⟩
          simp [go_sem, hd, j1]
          exact Below.refl _ _
        · intro vals W hW hw hd
          try simp [Region.binds] at hd
          refine ⟨by first | rfl | simp [Region.wanted, yielded, hd], ?_⟩
          have cc := c1.out W hW.out
          simp [go_sem, hd, cc]
          exact Below.refl _ _
        · intro vals W hW hw hd
          try simp [Region.binds] at hd
          refine ⟨by first | rfl | simp [Region.wanted, yielded, hd], ?_⟩
          simp [go_sem, hd, xe]
          exact Below.refl _ _
        · intro vals W hW hw hd
          try simp [Region.binds] at hd
          refine ⟨by first | rfl | simp [Region.wanted, yielded, hd], ?_⟩
          simp [go_sem, hd, j1]
          exact Below.refl _ _
      obtain ⟨f0, f1, f2, f3, f4, f5, f6, f7, _⟩ := hF
      simp only [MP.eq_p] at f0 f1 f2 f3 f4 f5 f6 f7
      rw [f0, f1, f2, f3, f4, f5, f6, f7]
      simp only [List.drop_succ_cons, List.drop_zero]
      have Y0 : Hid (Blk w4 w.heap.size ((A.midN 16 old new j).map b8)) := X0.out.up hb4.out X0.out.lt
      have YT : Hid (Blk w4 (w.heap.size + 1) (t.map b8)) := XT.out.up hb4.out XT.out.lt
      have Y1 : Hid (Blk w4 (w.heap.size + 1 + 1) (zB 16)) := X1.out.up hb4.out X1.out.lt
      have Y2 : Hid (Below w.heap.size w w4) := X2.out.trans (hb4.out.mono X2.out.size)
      have c4 := c0.out w4 hb4.out
      have z4 := Y0.out.fz j
      have V0 : Hid _ := US.out w4 Y0.out
      have VT : Hid _ := YT.out.apart1 (k' := w.heap.size) (o := j) (v := b8 nj) (by omega)
      have V1 : Hid _ := Y1.out.apart1 (k' := w.heap.size) (o := j) (v := b8 nj) (by omega)
      have V2 : Hid _ := Y2.out.setCell (p := ⟨w.heap.size, j, none⟩) (Nat.le_refl _) (b8 nj)
      clear f0 f1 f2 f3 f4 f5 f6 f7 hb4 hO X0 X1 X2 XT c0 c1 Y0 Y1 Y2 YT US
      go_wp2_with fail
      go_roundw
      case rel => exact ⟨j + 1, J1.out, by first | rfl | go_num, V0, VT, V1, V2⟩
      case measure => have := J1.out; simp [intOf]; omega
    · obtain rfl : j = 16 := by omega
      rw [A.midN_all] at X0
      have LL : Hid ((A.by_ 16 new).length = 16) := A.by_length _ _
      obtain ⟨l, hl⟩ : ∃ l, l = A.by_ 16 new := ⟨_, rfl⟩
      rw [← hl] at X0 LL
      have HE : Hid (l = A.by_ 16 new) := hl
      clear hl hj hj1
      have T0 : Hid (wr.there (w.heap.size + 1 + 1) 0 (l.map b8).length) := X1.out.there (by rw [List.length_map, LL.out, zB_length]; omega)
      go_wp2_with (first | refine wpList_load_mid rfl 23 (.tmp 2) rfl w.heap.size 0 rfl (l.map b8) _ X0.out.all u_a16 rfl (info_n info_a16 l LL.out) ?_ | refine wp_store_eq rfl 23 (.tmp 4) (.tmp 18) rfl (w.heap.size + 1 + 1) 0 (l.map b8) rfl rfl T0.out (info_n info_a16 l LL.out) (one_b8 _) ?_)
      intro w9 hw9
      go_wp2_with fail
      refine bodyPost_ret (v := aB l) ?_ rfl ⟨by rw [HE.out], ?_⟩
      · rw [hw9.out]
        exact results_cell (b := w.heap.size + 1 + 1) rfl rfl (World.rangeAt_setCells_same _ _ _ _ T0.out) u_a16 rfl (info_n info_a16 l LL.out)
      · rw [hw9.out]
        exact below_setCells _ _ _ X2.out (by omega)
namespace A
/-- The block of xs from place i on. -/
def blk (xs : List Nat) (i : Nat) : List Nat := (xs.drop i).take 16
theorem blk_length {xs : List Nat} {i : Nat} (h : i + 16 ≤ xs.length) : (blk xs i).length = 16 := by
  unfold blk
  rw [List.length_take, List.length_drop]
  omega
theorem blk_ok {xs : List Nat} {i : Nat} (h : i + 16 ≤ xs.length) (hx : ∀ x ∈ xs, x < 256) : ok 16 (blk xs i) := ⟨blk_length h, fun x hm => hx x (List.mem_of_mem_drop (List.mem_of_mem_take hm))⟩
end A
/-- The block from place i on lies there. -/
theorem range_blk {w : World} {g q i : Nat} {xs : List Nat} (h : w.rangeAt g q (xs.map b8)) : w.rangeAt g (q + i) ((A.blk xs i).map b8) := fun j v hj => by
  unfold A.blk at hj
  rw [List.map_take, List.map_drop, List.getElem?_take] at hj
  split at hj
  · rw [List.getElem?_drop] at hj
    rw [Nat.add_assoc]
    exact h (i + j) v hj
  · cases hj
set_option maxRecDepth 20000 in
set_option maxHeartbeats 1000000 in
theorem mblk_fun (xs : List Nat) (i : Nat) (hi : i + 16 ≤ xs.length) (v : Value) (w : World) (hv : By w v xs) : Calls Try.prog 36 #[v, .int .i64 (i : Int)] w fun e w' => e = .returned (aB (A.blk xs i)) ∧ Below w.heap.size w w' := by
  obtain ⟨va, vc, rfl⟩ := hv.len
  have hc : xs.length ≤ vc := by obtain ⟨_, _, e, h1, _⟩ := hv; cases e; exact h1
  obtain ⟨g, q, rfl, _, hr⟩ := hv.range (by omega)
  have RB : Hid (∀ W, Below w.heap.size w W → W.rangeAt g (q + i) ((A.blk xs i).map b8)) := fun W hW j u hj => by
    have h := range_blk (i := i) hr j u hj
    exact (hW.cell (p := ⟨g, q + i + j, none⟩) (lt_of_cellB h)).trans h
  have LB : Hid ((A.blk xs i).length = 16) := A.blk_length hi
  have SL : Hid (sliced (some ⟨g, q, none⟩) i xs.length vc 1 = .slice (some ⟨g, q + i, none⟩) (xs.length - i) (vc - i)) := sliced_at (by omega)
  have MI : Hid (16 = min (xs.length - i) 16) := by show _ = _; omega
  have NI : Hid (i ≤ xs.length) := by show _ ≤ _; omega
  obtain ⟨bl, hbl⟩ : ∃ bl, bl = A.blk xs i := ⟨_, rfl⟩
  rw [← hbl] at RB LB ⊢
  obtain ⟨x0, x1, x2⟩ := al2 w #[Value.int IntKind.u8 0, Value.int IntKind.u8 0, Value.int IntKind.u8 0, Value.int IntKind.u8 0, Value.int IntKind.u8 0, Value.int IntKind.u8 0, Value.int IntKind.u8 0, Value.int IntKind.u8 0, Value.int IntKind.u8 0, Value.int IntKind.u8 0, Value.int IntKind.u8 0, Value.int IntKind.u8 0, Value.int IntKind.u8 0, Value.int IntKind.u8 0, Value.int IntKind.u8 0, Value.int IntKind.u8 0] #[Value.int IntKind.u8 0, Value.int IntKind.u8 0, Value.int IntKind.u8 0, Value.int IntKind.u8 0, Value.int IntKind.u8 0, Value.int IntKind.u8 0, Value.int IntKind.u8 0, Value.int IntKind.u8 0, Value.int IntKind.u8 0, Value.int IntKind.u8 0, Value.int IntKind.u8 0, Value.int IntKind.u8 0, Value.int IntKind.u8 0, Value.int IntKind.u8 0, Value.int IntKind.u8 0, Value.int IntKind.u8 0] 23 23
  have X0 : Hid (Blk _ w.heap.size (zB 16)) := x0
  have X1 : Hid (Blk _ (w.heap.size + 1) (zB 16)) := x1
  have X2 : Hid (Below w.heap.size w _) := x2
  obtain ⟨n, hn⟩ : ∃ n, n = xs.length := ⟨_, rfl⟩
  have HN : Hid (n = xs.length) := hn
  rw [← hn] at SL MI
  rw [← hn]
  clear x0 x1 x2 hbl hn hv hc hr hi
  go_enter Try.func36, Try.ntmps36
  go_wp2_with (simp only [zero_a16])
  generalize World.alloc (w.alloc _) _ = w1 at *
  refine wp_region_monoSE 4 [MP.eq (.slice (some ⟨w.heap.size + 1, 0, none⟩) 16 16), MP.eq (.slice (some ⟨g, q, none⟩) n vc), MP.eq (.int .i64 (i : Int)), MP.eq (.slice (some ⟨g, q + i, none⟩) (n - i) (vc - i))] (by kernel_rfl) (by kernel_rfl) rfl (by decide) (by kernel_rfl) ?_
  apply Exists.intro
  refine ⟨fun vals => ?_, ?_, fun vals4 w4 hb4 hF hO => ?_⟩
  · simp only [putsV, dstL, List.length_cons, List.length_nil, Nat.zero_add, Nat.reduceAdd, List.getElem?_cons_zero, List.getElem?_cons_succ, Option.bind_some, Act.put, List.setIfInBounds_toArray, List.set_cons_succ, List.set_cons_zero]
    rfl
  · refine ⟨?_, ?_, ?_, ?_, trivial⟩
    · intro vals W hW hw hd
      try simp [Region.binds] at hd
      refine ⟨by first | rfl | simp [Region.wanted, yielded, hd], ?_⟩
      exact yields_all u_a16 gi_u8 (by decide) (.tmp 5) rfl (w.heap.size + 1) 0 rfl rfl
    · intro vals W hW hw hd
      try simp [Region.binds] at hd
      refine ⟨by first | rfl | simp [Region.wanted, yielded, hd], ?_⟩
      simp [go_sem, hd]
      exact Below.refl _ _
    · intro vals W hW hw hd
      try simp [Region.binds] at hd
      refine ⟨by first | rfl | simp [Region.wanted, yielded, hd], ?_⟩
      simp [go_sem, hd]
      exact Below.refl _ _
    · intro vals W hW hw hd
      try simp [Region.binds] at hd
      refine ⟨by first | rfl | simp [Region.wanted, yielded, hd], ?_⟩
      exact yields_cutB (.tmp 7) (.tmp 8) rfl (some ⟨g, q, none⟩) vc i .i64 xs (by rw [← HN.out]; exact hd.1) hd.2 NI.out (by rw [← HN.out]; exact SL.out)
  obtain ⟨f0, f1, f2, f3, _⟩ := hF
  simp only [MP.eq_p] at f0 f1 f2 f3
  rw [f0, f1, f2, f3]
  simp only [List.drop_succ_cons, List.drop_zero]
  have Y0 : Hid (Blk w4 w.heap.size (zB 16)) := X0.out.up hb4.out X0.out.lt
  have Y1 : Hid (Blk w4 (w.heap.size + 1) (zB 16)) := X1.out.up hb4.out X1.out.lt
  have Y2 : Hid (Below w.heap.size w w4) := X2.out.trans (hb4.out.mono X2.out.size)
  have RR : Hid _ := RB.out w4 Y2.out
  have TT : Hid (w4.there (w.heap.size + 1) 0 bl.length) := Y1.out.there (by rw [zB_length, LB.out]; omega)
  have MM : Hid (bl.length = min (n - i) 16) := by rw [LB.out]; exact MI.out
  clear f0 f1 f2 f3 hb4 hO X0 X1 X2 RB
  go_wp2_with (refine wp_copyR rfl (.tmp 6) (.tmp 9) rfl (w.heap.size + 1) 0 16 16 g (q + i) (n - i) (vc - i) bl rfl rfl MM.out RR.out TT.out ?_)
  intro w5 hw5
  have Z0 : Hid (Blk w5 w.heap.size (zB 16)) := by rw [hw5.out]; exact Y0.out.apart (by omega)
  have Z1 : Hid (Blk w5 (w.heap.size + 1) (bl.map b8)) := by rw [hw5.out]; exact Y1.out.put (by rw [List.length_map, LB.out, zB_length])
  have Z2 : Hid (Below w.heap.size w w5) := by rw [hw5.out]; exact below_setCells _ _ _ Y2.out (by omega)
  have T0 : Hid (w5.there w.heap.size 0 (bl.map b8).length) := Z0.out.there (by rw [List.length_map, LB.out, zB_length]; omega)
  clear hw5 Y0 Y1 Y2 RR TT
  go_wp2_with (first | refine wpList_load_mid rfl 23 (.tmp 5) rfl (w.heap.size + 1) 0 rfl (bl.map b8) _ Z1.out.all u_a16 rfl (info_n info_a16 bl LB.out) ?_ | refine wp_store_eq rfl 23 (.tmp 4) (.tmp 11) rfl w.heap.size 0 (bl.map b8) rfl rfl T0.out (info_n info_a16 bl LB.out) (one_b8 _) ?_)
  intro w9 hw9
  go_wp2_with fail
  refine bodyPost_ret (v := aB bl) ?_ rfl ⟨rfl, ?_⟩
  · rw [hw9.out]
    exact results_cell (b := w.heap.size) rfl rfl (World.rangeAt_setCells_same _ _ _ _ T0.out) u_a16 rfl (info_n info_a16 bl LB.out)
  · rw [hw9.out]
    exact below_setCells _ _ _ Z2.out (Nat.le_refl _)
end Go.Proofs.Ytmfbdacalenfdaa
