/- Texts that were joined: RowB, WaC, WaB. -/
import Derived.Test.YtejabkmhpiabnaaBs
import Derived.Test.YtejabkmhpiabnaaGrp0
import Derived.Test.YtejabkmhpiabnaaGrp30
import Derived.Test.YtejabkmhpiabnaaUpS
import Derived.Test.YtejabkmhpiabnaaAeM
import Derived.Test.YtejabkmhpiabnaaAeK
/- Rows of bytes that fill a block of their own. -/
namespace Go.Proofs.Ytejabkmhpiabnaa
open Go.RowKit
set_option linter.unusedSimpArgs false
/-- Block g is a row of these bytes, none of it frozen. -/
def RowB (w : World) (g : Nat) (t : TypeId) (xs : List Nat) : Prop := w.heap[g]? = some (.cells (xs.map b8).toArray t (0, 0))
theorem RowB.blk {w : World} {g : Nat} {t : TypeId} {xs : List Nat} (h : RowB w g t xs) : Blk w g (xs.map b8) := by
  refine ⟨(Array.getElem?_eq_some_iff.1 h).1, fun j v hv => ?_, fun j => ?_⟩
  · rw [cell_of_row _ _ j _ t _ h]; simpa using hv
  · unfold World.frozen?
    rw [h]
    simp
theorem RowB.lt {w : World} {g : Nat} {t : TypeId} {xs : List Nat} (h : RowB w g t xs) : g < w.heap.size := (Array.getElem?_eq_some_iff.1 h).1
theorem RowB.up {W w1 : World} {g B : Nat} {t : TypeId} {xs : List Nat} (h : RowB W g t xs) (hb : Below B W w1) (hB : g < B) : RowB w1 g t xs := (hb.block g hB).trans h
theorem RowB.ob {w : World} {g B n : Nat} {xs : List Nat} (h : RowB w g 5 xs) (hB : B ≤ g) (hn : xs.length = n) (hz : n ≤ 281474976710656) : Ob w B (.slice (some ⟨g, 0, none⟩) n n) xs := by
  subst hn
  refine ⟨by simp, .inr ⟨g, xs.length, (xs.map b8).toArray, rfl, hB, h, Nat.le_refl _, by unfold maxLen; omega, by simp, ?_⟩⟩
  rw [Nat.mul_one]
  exact List.take_of_length_le (by simp)
theorem Ob.row {w : World} {g B n : Nat} {xs : List Nat} (h : Ob w B (.slice (some ⟨g, 0, none⟩) n n) xs) (hn : xs.length = n) : RowB w g 5 xs := by
  subst hn
  rcases h.2 with ⟨e, _⟩ | ⟨g', cap, cur, e, _, hg, _, _, hs, ht⟩
  · cases e
  · simp only [Value.slice.injEq, Option.some.injEq, Addr.mk.injEq] at e
    obtain ⟨⟨rfl, _⟩, _, rfl⟩ := e
    rw [Nat.mul_one] at hs ht
    have : cur.toList = xs.map b8 := by rw [← ht, List.take_of_length_le (by rw [Array.length_toList, hs]; exact Nat.le_refl _)]
    unfold RowB
    rw [hg, ← this]
theorem RowB.put {w : World} {g o : Nat} {t : TypeId} {a b c b' : List Nat} (h : RowB w g t (a ++ (b ++ c))) (ho : o = a.length) (hl : b'.length = b.length) : RowB (w.setCells g o (b'.map b8)) g t (a ++ (b' ++ c)) := by
  subst ho
  unfold RowB at *
  rw [List.map_append, List.map_append] at *
  have := heap_setCells_at g t (0, 0) (b'.map b8) (a.map b8) (b.map b8) (c.map b8) w h (by simpa using hl.symm)
  rw [List.length_map] at this
  exact this
theorem RowB.apart {w : World} {g k o : Nat} {t : TypeId} {xs : List Nat} {vs : List Value} (h : RowB w g t xs) (hk : g ≠ k) : RowB (w.setCells k o vs) g t xs := (heap_setCells_off k g hk vs o w).trans h
theorem RowB.apart1 {w : World} {g k o : Nat} {t : TypeId} {xs : List Nat} {v : Value} (h : RowB w g t xs) (hk : g ≠ k) : RowB (w.setCell ⟨k, o, none⟩ v) g t xs := h.apart (vs := [v]) hk
theorem RowB.setB {w : World} {g : Nat} {t : TypeId} {xs : List Nat} (h : RowB w g t xs) (j y : Nat) : RowB (w.setCell ⟨g, j, none⟩ (b8 y)) g t (xs.set j y) := by
  unfold RowB at *
  rw [List.map_set]
  exact heap_setCell_at w g j (b8 y) (xs.map b8) t (0, 0) h
theorem RowB.by {w : World} {g n : Nat} {t : TypeId} {xs : List Nat} (h : RowB w g t xs) (hl : xs.length = n) : By w (.slice (some ⟨g, 0, none⟩) n n) xs := by
  subst hl
  refine By.of_cells (Nat.le_refl _) fun j hj => ?_
  rw [Nat.zero_add]
  exact h.blk.cell j _ (by simp [List.getD_eq_getElem?_getD, hj])
/-- A slice from a place on, told as a slice. -/
theorem sliced_at {g q i n c : Nat} (h : i < c) : sliced (some ⟨g, q, none⟩) i n c 1 = .slice (some ⟨g, q + i, none⟩) (n - i) (c - i) := by
  rw [sliced, if_neg (by omega), Nat.mul_one]
  simp [Addr.add_lit]
end Go.Proofs.Ytejabkmhpiabnaa

/- The contracts of wrap.cut and wrap.joined: bytes as eights, and back. -/
namespace Go.Proofs.Ytejabkmhpiabnaa
open Go.RowKit
set_option linter.unusedSimpArgs false
attribute [local go_sem] YieldsP execOp
attribute [local simp] MP.eq_p
theorem uEss : Try.prog.underlying 53 = some (.slice 51) := by kernel_rfl
theorem iE8 : (Try.prog.info? 51).map (fun i => (i.zero, i.size, i.bytes)) = some (some (aB (List.replicate 8 0)), 8, 8) := by kernel_rfl
theorem made_zerosE (n : Nat) : ((madeCells (aB (List.replicate 8 0)).cells (n * 8)).toList) = (List.replicate (n * 8) 0).map b8 := by
  refine List.ext_getElem (by simp [madeCells]) fun i h1 h2 => ?_
  have h8 : i % 8 < 8 := Nat.mod_lt _ (by decide)
  have h : i % 8 = 0 ∨ i % 8 = 1 ∨ i % 8 = 2 ∨ i % 8 = 3 ∨ i % 8 = 4 ∨ i % 8 = 5 ∨ i % 8 = 6 ∨ i % 8 = 7 := by omega
  simp [madeCells, Value.cells]
  rcases h with e | e | e | e | e | e | e | e <;> rw [e] <;> rfl
theorem wp_mkE {ops : Array Oper} {rest : List Oper} {o : Oper} {a : Act} {Q : Exit → Act → World → Prop} {w : World} (hg : o.guard = none) (l c : Operand) (hop : o.op = Op.makeSlice 53 l c)
    (n : Nat) (L : Int) (hl : a.eval l = .int .i64 L) (hc : a.eval c = .int .i64 L) (hL : L = (n : Int)) (hn : n ≤ 65536)
    (h : ∀ w', Blk w' w.heap.size ((List.replicate (n * 8) 0).map b8) → Below w.heap.size w w' → wpList Try.prog ops Q rest (a.put o.dst (.slice (some ⟨w.heap.size, 0, none⟩) n n)) w') : wpList Try.prog ops Q (o :: rest) a w := by
  obtain ⟨i0, hi, hz0, hz1, hz2⟩ := info_parts iE8
  refine wpList_make_full w hg l c 53 hop w.heap.size 51 i0 (aB (List.replicate 8 0)) 8 uEss hi hz0 hz1 .i64 .i64 L L n hl hc hL hL (by rw [hz2]; omega) (by unfold maxLen; omega) (Nat.le_refl _) ?_
  intro w' r1 r2
  refine h w' ?_ (Below.grown (Below.refl _ _) r2 (Nat.le_refl _) (fun k hk => by cases hk))
  rcases r1.2 with ⟨e, _⟩ | ⟨g, cap, cur, e, _, hgg, _, _, hsz, htk⟩
  · cases e
  · cases e
    have hb := Blk.of_heap hgg
    have e2 : cur.toList = (List.replicate (n * 8) 0).map b8 := by
      rw [List.take_of_length_le (by rw [Array.length_toList, hsz]; omega)] at htk
      rw [htk, made_zerosE]
    rw [e2] at hb
    exact hb
namespace A
/-- The first j eights of b, and then 0. -/
def cutR (b : List Nat) (n j : Nat) : List Nat := b.take (8 * j) ++ List.replicate (8 * (n - j)) 0
theorem cutR_zero (b : List Nat) (n : Nat) : cutR b n 0 = List.replicate (n * 8) 0 := by
  unfold cutR
  rw [Nat.mul_zero, List.take_zero, List.nil_append, Nat.sub_zero, Nat.mul_comm]
theorem cutR_all {b : List Nat} {n : Nat} (h : b.length = 8 * n) : cutR b n n = b := by
  unfold cutR
  rw [Nat.sub_self, Nat.mul_zero, List.replicate_zero, List.append_nil, List.take_of_length_le (by omega)]
theorem cutR_length {b : List Nat} {n j : Nat} (h : b.length = 8 * n) (hj : j ≤ n) : (cutR b n j).length = 8 * n := by
  unfold cutR
  rw [List.length_append, List.length_take, List.length_replicate]
  omega
/-- Eight j. -/
def e8 (b : List Nat) (j : Nat) : List Nat := (b.drop (8 * j)).take 8
theorem e8_length {b : List Nat} {n j : Nat} (h : b.length = 8 * n) (hj : j < n) : (e8 b j).length = 8 := by
  unfold e8
  rw [List.length_take, List.length_drop]
  omega
theorem cutR_next {b : List Nat} {n j : Nat} (h : b.length = 8 * n) (hj : j < n) : ∃ a c, cutR b n j = a ++ (List.replicate 8 0 ++ c) ∧ cutR b n (j + 1) = a ++ (e8 b j ++ c) ∧ a.length = j * 8 := by
  refine ⟨b.take (8 * j), List.replicate (8 * (n - (j + 1))) 0, ?_, ?_, by rw [List.length_take]; omega⟩
  · unfold cutR
    rw [List.replicate_append_replicate]
    congr 2
    omega
  · unfold cutR e8
    rw [← List.append_assoc, ← List.take_add]
    rfl
theorem e8_take {b : List Nat} (j : Nat) : b.take (8 * j) ++ e8 b j = b.take (8 * (j + 1)) := by
  unfold e8
  rw [← List.take_add]
  rfl
end A
/-- Eight j of a row lies there. -/
theorem range_e8 {w : World} {g q j : Nat} {xs : List Nat} (h : w.rangeAt g q (xs.map b8)) : w.rangeAt g (q + 8 * j) ((A.e8 xs j).map b8) := fun i v hj => by
  unfold A.e8 at hj
  rw [List.map_take, List.map_drop, List.getElem?_take] at hj
  split at hj
  · rw [List.getElem?_drop] at hj
    rw [Nat.add_assoc]
    exact h (8 * j + i) v hj
  · cases hj
set_option maxRecDepth 20000 in
set_option maxHeartbeats 1000000 in
theorem wcut_fun (b : List Nat) (n : Nat) (hb : b.length = 8 * n) (h0 : 0 < n) (h9 : n ≤ 9) (v : Value) (w : World) (hv : By w v b) :
    Calls Try.prog 22 #[v] w fun e w' => e = .returned (.slice (some ⟨w.heap.size, 0, none⟩) n n) ∧ Blk w' w.heap.size (b.map b8) ∧ Below w.heap.size w w' := by
  obtain ⟨va, vc, rfl⟩ := hv.len
  have hc : b.length ≤ vc := by obtain ⟨_, _, e, h1, _⟩ := hv; cases e; exact h1
  obtain ⟨g, q, rfl, _, hr⟩ := hv.range (by omega)
  have RB : Hid (∀ W j, Below w.heap.size w W → W.rangeAt g (q + 8 * j) ((A.e8 b j).map b8)) := fun W j hW => range_upq (range_e8 hr) hW (Nat.le_refl _)
  obtain ⟨N, hN⟩ : ∃ N, N = b.length := ⟨_, rfl⟩
  have HB : Hid (b.length = 8 * n) := hb
  have HN : Hid (N = b.length) := hN
  have HC : Hid (N ≤ vc) := by rw [hN]; exact hc
  have N8 : N = 8 * n := by omega
  have d1 : (N : Int).tdiv 8 = (n : Int) := by rw [Int.tdiv_eq_ediv_of_nonneg (by omega)]; omega
  have d2 : (N : Int) / 8 = (n : Int) := by omega
  have wn : IntKind.i64.wrap (n : Int) = (n : Int) := by rw [IntKind.wrap_i64]; omega
  have NB : Hid (0 < n ∧ n ≤ 9 ∧ N = 8 * n) := ⟨h0, h9, N8⟩
  rw [← hN]
  clear hv hc hr hN hb h0 h9 N8
  go_enter Try.func22, Try.ntmps22
  go_wp2_with (refine wp_mkE rfl (.tmp 7) (.tmp 7) rfl n (n : Int) rfl rfl rfl (by have := NB.out; omega) ?_)
  intro w1 k1 hb1
  have K1 : Hid (Blk w1 w.heap.size ((A.cutR b n 0).map b8)) := by rw [A.cutR_zero, List.map_replicate]; exact k1
  have B1 : Hid (Below w.heap.size w w1) := hb1
  obtain ⟨k, hk⟩ : ∃ k, k = w.heap.size := ⟨_, rfl⟩
  have HK : Hid (k = w.heap.size) := hk
  rw [← hk] at K1 ⊢
  clear k1 hb1 hk
  go_wp2_with fail
  go_loopw [11] (fun i wr => ∃ j : Nat, j ≤ n ∧ i = .int .i64 (j : Int) ∧ Hid (Blk wr k ((A.cutR b n j).map b8)) ∧ Hid (Below w.heap.size w wr)) (fun i _ => n - (intOf i).toNat)
  case atStart => exact ⟨0, by omega, rfl, K1, B1⟩
  case round =>
    clear K1 B1
    obtain ⟨j, hj, rfl, K1, B1⟩ := hrel
    by_cases hj1 : j < n
    · have nb := NB.out
      have j1 : (j : Int) < (n : Int) := by omega
      have wj : IntKind.i64.wrap ((j : Int) + 1) = (j : Int) + 1 := by rw [IntKind.wrap_i64]; omega
      obtain ⟨s, hs⟩ : ∃ s, s = 8 * j := ⟨_, rfl⟩
      have HS : Hid (s = j * 8) := by rw [hs]; exact Nat.mul_comm _ _
      have ws : IntKind.i64.wrap ((j : Int) * 8) = (s : Int) := by rw [IntKind.wrap_i64]; omega
      have RR : Hid (∀ W, Below wr.heap.size wr W → W.rangeAt g (q + s) ((A.e8 b j).map b8)) := fun W hW => by rw [hs]; exact RB.out W j (B1.out.trans (hW.mono B1.out.size))
      have LE : Hid ((A.e8 b j).length = 8) := A.e8_length HB.out hj1
      obtain ⟨xa, xc, ex1, ex2, ex3⟩ := A.cutR_next HB.out hj1
      have UP : Hid (∀ W, Blk W k ((A.cutR b n j).map b8) → Blk (W.setCells k s ((A.e8 b j).map b8)) k ((A.cutR b n (j + 1)).map b8)) := fun W h => by
        rw [ex1, List.map_append, List.map_append] at h
        rw [ex2, List.map_append, List.map_append]
        exact h.store (by rw [List.length_map, ex3, HS.out]) (by rw [List.length_map, List.length_map, LE.out, List.length_replicate])
      have CL : Hid (s + 8 ≤ ((A.cutR b n j).map b8).length) := by rw [List.length_map, A.cutR_length HB.out (by omega)]; show _ ≤ _; omega
      have SL : Hid (sliced (some ⟨g, q, none⟩) s N vc 1 = .slice (some ⟨g, q + s, none⟩) (N - s) (vc - s)) := sliced_at (by have := HC.out; omega)
      have NS : Hid (s ≤ N) := by show _ ≤ _; omega
      have MI : Hid (8 = min (N - s) 8) := by show _ = _; omega
      have J1 : Hid (j < n) := hj1
      generalize A.e8 b j = x8 at *
      clear hs ex1 ex2 ex3 xa xc hj hj1 nb
      go_wp2_with fail
      refine wp_region_monoSE 8 [MP.eq (.slice (some ⟨k, 0, none⟩) n n), MP.eq (.int .i64 (j : Int)), MP.eq (.pointer (some ⟨k, s, none⟩)), MP.eq (.slice (some ⟨k, s, none⟩) 8 8), MP.eq (.slice (some ⟨g, q, none⟩) N vc), MP.eq (.int .i64 (j : Int)), MP.eq (.int .i64 (s : Int)), MP.eq (.slice (some ⟨g, q + s, none⟩) (N - s) (vc - s))] (by kernel_rfl) (by kernel_rfl) rfl (by decide) (by kernel_rfl) ?_
      apply Exists.intro
      refine ⟨fun vals => ?_, ?_, fun vals4 w4 hb4 hF hO => ?_⟩
      · simp only [putsV, dstL, List.length_cons, List.length_nil, Nat.zero_add, Nat.reduceAdd, List.getElem?_cons_zero, List.getElem?_cons_succ, Option.bind_some, Act.put, List.setIfInBounds_toArray, List.set_cons_succ, List.set_cons_zero]
        rfl
      · refine ⟨?_, ?_, ?_, ?_, ?_, ?_, ?_, ?_, trivial⟩
        · intro vals W hW hw hd
          try simp [Region.binds] at hd
          refine ⟨by first | rfl | simp [Region.wanted, yielded, hd], ?_⟩
          simp [go_sem, hd]
          exact Below.refl _ _
        · intro vals W hW hw hd
          try simp [Region.binds] at hd
          refine ⟨by first | rfl | simp [Region.wanted, yielded, hd], ?_⟩
          simp [go_sem, hd]
          exact Below.refl _ _
        · intro vals W hW hw hd
          try simp [Region.binds] at hd
          refine ⟨by first | rfl | simp [Region.wanted, yielded, hd], ?_⟩
          have hs := HS.out
          simp [go_sem, hd, j1, hs]
          exact Below.refl _ _
        · intro vals W hW hw hd
          try simp [Region.binds] at hd
          refine ⟨by first | rfl | simp [Region.wanted, yielded, hd], ?_⟩
          exact yields_all u_e8 gi_u8 (by decide) (.tmp 16) rfl k s hd rfl
        · intro vals W hW hw hd
          try simp [Region.binds] at hd
          refine ⟨by first | rfl | simp [Region.wanted, yielded, hd], ?_⟩
          simp [go_sem, hd]
          exact Below.refl _ _
        · intro vals W hW hw hd
          try simp [Region.binds] at hd
          refine ⟨by first | rfl | simp [Region.wanted, yielded, hd], ?_⟩
          simp [go_sem, hd]
          exact Below.refl _ _
        · intro vals W hW hw hd
          try simp [Region.binds] at hd
          refine ⟨by first | rfl | simp [Region.wanted, yielded, hd], ?_⟩
          simp [go_sem, hd, ws]
          exact Below.refl _ _
        · intro vals W hW hw hd
          try simp [Region.binds] at hd
          refine ⟨by first | rfl | simp [Region.wanted, yielded, hd], ?_⟩
          exact yields_cutB (.tmp 18) (.tmp 20) rfl (some ⟨g, q, none⟩) vc s .i64 b (by rw [← HN.out]; exact hd.1) hd.2 (by rw [← HN.out]; exact NS.out) (by rw [← HN.out]; exact SL.out)
      obtain ⟨f0, f1, f2, f3, f4, f5, f6, f7, _⟩ := hF
      simp only [MP.eq_p] at f0 f1 f2 f3 f4 f5 f6 f7
      rw [f0, f1, f2, f3, f4, f5, f6, f7]
      simp only [List.drop_succ_cons, List.drop_zero]
      have Y1 : Hid (Blk w4 k ((A.cutR b n j).map b8)) := K1.out.up hb4.out K1.out.lt
      have Y2 : Hid (Below w.heap.size w w4) := B1.out.trans (hb4.out.mono B1.out.size)
      have R4 : Hid _ := RR.out w4 hb4.out
      have T4 : Hid (w4.there k s x8.length) := Y1.out.there (by rw [LE.out]; exact CL.out)
      have M4 : Hid (x8.length = min (N - s) 8) := by rw [LE.out]; exact MI.out
      clear f0 f1 f2 f3 f4 f5 f6 f7 hb4 hO K1 B1 RR
      go_wp2_with (refine wp_copyR rfl (.tmp 17) (.tmp 21) rfl k s 8 8 g (q + s) (N - s) (vc - s) x8 rfl rfl M4.out R4.out T4.out ?_)
      intro w5 hw5
      have V0 : Hid (Blk w5 k ((A.cutR b n (j + 1)).map b8)) := by rw [hw5.out]; exact UP.out w4 Y1.out
      have V1 : Hid (Below w.heap.size w w5) := by rw [hw5.out]; exact below_setCells _ _ _ Y2.out (by rw [HK.out]; exact Nat.le_refl _)
      clear hw5 Y1 Y2 UP R4 T4
      go_wp2_with fail
      go_roundw
      case rel => exact ⟨j + 1, J1.out, by first | rfl | go_num, V0, V1⟩
      case measure => have := J1.out; simp [intOf]; omega
    · obtain rfl : j = n := by omega
      have n1 : ¬ (j : Int) < (j : Int) := by omega
      rw [A.cutR_all HB.out] at K1
      clear hj hj1
      go_wp2_with fail
      go_ret
      have hk := HK.out
      clear HK
      subst hk
      exact ⟨rfl, K1.out, B1.out⟩
/-- An array of eight sliced whole. -/
theorem wp_allE {ops : Array Oper} {rest : List Oper} {o : Oper} {a : Act} {Q : Exit → Act → World → Prop} {w : World} (hgd : o.guard = none) (x : Operand) (ho : o.op = .slice 51 x none none none) (b : Nat) (hx : a.eval x = .pointer (some ⟨b, 0, none⟩))
    (h : wpList Try.prog ops Q rest (a.put o.dst (.slice (some ⟨b, 0, none⟩) 8 8)) w) : wpList Try.prog ops Q (o :: rest) a w := by
  refine wpList_plain hgd fun K hK => ?_
  have e1 := slice_all u_e8 gi_u8 (by decide) b 0 w
  unfold Oper.wp
  simp [execOp, ho, hx, e1, Result.andThen]
  exact hK _ _ h
set_option maxRecDepth 20000 in
set_option maxHeartbeats 1000000 in
theorem wjoined_fun (xs : List Nat) (n : Nat) (hl : xs.length = 8 * n) (h9 : n ≤ 9) (g o c : Nat) (hc : n ≤ c) (w : World) (hr : w.rangeAt g o (xs.map b8)) :
    Calls Try.prog 27 #[.slice (some ⟨g, o, none⟩) n c] w fun e w' => ∃ u, e = .returned u ∧ By w' u xs ∧ Below w.heap.size w w' := by
  have RB : Hid (∀ W j, Below w.heap.size w W → W.rangeAt g (o + 8 * j) ((A.e8 xs j).map b8)) := fun W j hW => range_upq (range_e8 hr) hW (Nat.le_refl _)
  have HL : Hid (xs.length = 8 * n) := hl
  have NB : Hid (n ≤ 9) := h9
  obtain ⟨N, hN⟩ : ∃ N, N = 8 * n := ⟨_, rfl⟩
  have HN : Hid (N = 8 * n) := hN
  have wn : IntKind.i64.wrap ((n : Int) * 8) = (N : Int) := by rw [IntKind.wrap_i64]; omega
  clear hl h9 hN hr
  go_enter Try.func27, Try.ntmps27
  obtain ⟨i0, hi, hz0, hz1, hz2⟩ := info_parts Try.iU8
  have II : Hid (Try.prog.info? 5 = some i0 ∧ i0.zero = some (.int .u8 0) ∧ i0.size = 1 ∧ i0.bytes = 1) := ⟨hi, hz0, hz1, hz2⟩
  clear hi hz0 hz1 hz2
  go_wp2_with (refine wpList_make_own w rfl _ (.tmp 8) 22 rfl w.heap.size 5 i0 (.int .u8 0) 1 Try.uBytes II.out.1 II.out.2.1 II.out.2.2.1 .i64 .i64 (N : Int) N rfl rfl rfl (by rw [II.out.2.2.2]; have h1 := HN.out; have h2 := NB.out; omega) (by unfold maxLen; have h1 := HN.out; have h2 := NB.out; omega) (Nat.le_refl _) ?_)
  intro w1 o1 g1
  have O1 : Hid (Ob w1 w.heap.size (.slice (some ⟨w.heap.size, 0, none⟩) 0 N) (xs.take (8 * 0))) := by rw [Nat.mul_zero, List.take_zero]; exact o1
  have B1 : Hid (Below w.heap.size w w1) := Below.grown (Below.refl _ _) g1 (Nat.le_refl _) (fun k hk => by cases hk)
  obtain ⟨v0, hv0⟩ : ∃ v0, v0 = Value.slice (some ⟨w.heap.size, 0, none⟩) 0 N := ⟨_, rfl⟩
  rw [← hv0] at O1 ⊢
  clear o1 g1 hv0 II
  go_wp2_with fail
  go_loopw [3, 12] (fun x i wr => ∃ (j : Nat) (v : Value), j ≤ n ∧ i = .int .i64 (j : Int) ∧ v = x ∧ Hid (Ob wr w.heap.size v (xs.take (8 * j))) ∧ Hid (Below w.heap.size w wr)) (fun _ i _ => n - (intOf i).toNat)
  case atStart => exact ⟨0, _, by omega, rfl, rfl, O1, B1⟩
  case round =>
    clear O1 B1
    obtain ⟨j, v, hj, rfl, hx, O1, B1⟩ := hrel
    subst hx
    by_cases hj1 : j < n
    · have nb := NB.out
      have j1 : (j : Int) < (n : Int) := by omega
      have wj : IntKind.i64.wrap ((j : Int) + 1) = (j : Int) + 1 := by rw [IntKind.wrap_i64]; omega
      obtain ⟨s, hs⟩ : ∃ s, s = o + 8 * j := ⟨_, rfl⟩
      have HS : o + j * 8 = s := by rw [hs, Nat.mul_comm]
      have RR : Hid (wr.rangeAt g s ((A.e8 xs j).map b8)) := by rw [hs]; exact RB.out wr j B1.out
      have LE : Hid ((A.e8 xs j).length = 8) := A.e8_length HL.out hj1
      have AP : Hid (xs.take (8 * j) ++ A.e8 xs j = xs.take (8 * (j + 1))) := A.e8_take j
      have AL : Hid ((xs.take (8 * j)).length ≤ 72) := by rw [List.length_take]; show _ ≤ _; omega
      have J1 : Hid (j < n) := hj1
      obtain ⟨a0, a1⟩ := al1 wr #[Value.int IntKind.u8 0, Value.int IntKind.u8 0, Value.int IntKind.u8 0, Value.int IntKind.u8 0, Value.int IntKind.u8 0, Value.int IntKind.u8 0, Value.int IntKind.u8 0, Value.int IntKind.u8 0] 51
      have A0 : Hid (Blk _ wr.heap.size (zB 8)) := a0
      have A1 : Hid (Below wr.heap.size wr _) := a1
      have TA : Hid ((wr.alloc (.cells #[Value.int IntKind.u8 0, Value.int IntKind.u8 0, Value.int IntKind.u8 0, Value.int IntKind.u8 0, Value.int IntKind.u8 0, Value.int IntKind.u8 0, Value.int IntKind.u8 0, Value.int IntKind.u8 0] 51)).there wr.heap.size 0 ((A.e8 xs j).map b8).length) := a0.there (by rw [List.length_map, LE.out]; decide)
      generalize A.e8 xs j = x8 at *
      clear hs hj hj1 nb a0 a1
      go_wp2_with (first | refine wpList_load_mid rfl 51 (.tmp 14) rfl g s rfl (x8.map b8) _ RR.out u_e8 rfl (info_n info_e8 x8 LE.out) ?_ | simp only [zero_e8] | refine wp_store_eq rfl 51 (.tmp 5) (.tmp 15) rfl wr.heap.size 0 (x8.map b8) rfl rfl TA.out (info_n info_e8 x8 LE.out) (one_b8 _) ?_)
      intro w2 hw2
      have K2 : Hid (Blk w2 wr.heap.size (x8.map b8)) := by rw [hw2.out]; exact A0.out.put (by rw [List.length_map, LE.out, zB_length])
      have B2 : Hid (Below wr.heap.size wr w2) := by rw [hw2.out]; exact below_setCells _ _ _ A1.out (Nat.le_refl _)
      have Y2 : Hid (By w2 (.slice (some ⟨wr.heap.size, 0, none⟩) 8 8) x8) := By.of_blk K2.out LE.out
      clear hw2 A0 A1 TA RR
      go_wp2_with (first | refine wp_allE rfl (.tmp 5) rfl wr.heap.size rfl ?_ | refine wp_appB rfl (.tmp 16) (.tmp 17) rfl w.heap.size v _ (xs.take (8 * j)) x8 wr rfl O1.out B2.out rfl Y2.out (by have h1 := AL.out; rw [LE.out]; omega) B1.out.size ?_)
      intro v3 w3 o3 _ b3
      have O3 : Hid (Ob w3 w.heap.size v3 (xs.take (8 * (j + 1)))) := by rw [← AP.out]; exact o3
      have B3 : Hid (Below w.heap.size w w3) := B1.out.trans b3
      clear o3 b3 O1 B1 K2 B2 Y2
      go_wp2_with fail
      go_roundw
      case rel => exact ⟨j + 1, _, J1.out, by first | rfl | go_num, rfl, O3, B3⟩
      case measure => have := J1.out; simp [intOf]; omega
    · obtain rfl : j = n := by omega
      have n1 : ¬ (j : Int) < (j : Int) := by omega
      rw [List.take_of_length_le (by rw [HL.out]; exact Nat.le_refl _)] at O1
      clear hj hj1
      go_wp2_with fail
      go_ret
      exact ⟨_, rfl, O1.out.by, B1.out⟩
end Go.Proofs.Ytejabkmhpiabnaa

/- Slices of eights that are built and appended to. -/
namespace Go.Proofs.Ytejabkmhpiabnaa
open Go.RowKit
set_option linter.unusedSimpArgs false
theorem run_bsE (w : World) (y : List Nat) (hy : y.length = 8) : (Instr.buildSlice 53 1 #[(0, aB y)]).run Try.prog w = .ok (.slice (some ⟨w.heap.size, 0, none⟩) 1 1) (w.alloc (.cells (y.map b8).toArray 51)) := by
  obtain ⟨i0, hi, hz0, hz1, hz2⟩ := info_parts iE8
  refine run_buildSlice w 53 51 1 _ _ i0 _ uEss hi hz0 (by rw [hz1]; decide) (by rw [hz1]; decide) ?_
  rw [hz1]
  have e := fill_step (fun i => some (i * 8, 8)) ((Array.range (1 * 8)).map ((aB (List.replicate 8 0)).cells[· % (aB (List.replicate 8 0)).cells.size]!)) 0 0 (y.map b8) [] ((Array.range (1 * 8)).map ((aB (List.replicate 8 0)).cells[· % (aB (List.replicate 8 0)).cells.size]!)).toList [] [] (by simp [hy]) (by simp) rfl (by simp [hy])
  rw [List.nil_append, List.append_nil, Instr.fill] at e
  exact e
/-- The slice v is a row of eights that the call made: n of them, with these bytes. -/
def Oe (w : World) (B : Nat) (v : Value) (n : Nat) (xs : List Nat) : Prop := w.ownsRow B 51 8 v n (xs.map b8)
theorem Oe.form {w : World} {B : Nat} {v : Value} {n : Nat} {xs : List Nat} (h : Oe w B v n xs) (hp : 0 < n) : ∃ g c, v = .slice (some ⟨g, 0, none⟩) n c ∧ n ≤ c ∧ w.rangeAt g 0 (xs.map b8) := by
  rcases h.2 with ⟨e, e2⟩ | ⟨g, cap, cur, e, hB, hg, hn, rest⟩
  · omega
  · refine ⟨g, cap, e, hn, fun j u hu => ?_⟩
    have h2 : w.ownsRow B 51 8 (.slice (some ⟨g, 0, none⟩) n cap) n (xs.map b8) := by rw [← e]; exact h
    have hl := h2.1
    have hj : j < n * 8 := by
      have := (List.getElem?_eq_some_iff.1 hu).1
      omega
    rw [Nat.zero_add, h2.cellAt j hj]
    exact hu
theorem wp_bsE {ops : Array Oper} {rest : List Oper} {o : Oper} {a : Act} {Q : Exit → Act → World → Prop} {w : World} (hgd : o.guard = none) (x : Operand) (ho : o.op = .buildSlice 53 1 #[(0, x)]) (y : List Nat) (hy : y.length = 8) (hx : a.eval x = aB y)
    (h : ∀ w2, Oe w2 w.heap.size (.slice (some ⟨w.heap.size, 0, none⟩) 1 1) 1 y → Below w.heap.size w w2 → wpList Try.prog ops Q rest (a.put o.dst (.slice (some ⟨w.heap.size, 0, none⟩) 1 1)) w2) : wpList Try.prog ops Q (o :: rest) a w := by
  refine wpList_plain hgd fun K hK => ?_
  have e := run_bsE w y hy
  unfold Oper.wp
  simp [execOp, ho, hx, e, Result.andThen]
  refine hK _ _ (h _ ?_ (al1 w _ _).2)
  refine ⟨by simp [hy], .inr ⟨w.heap.size, 1, (y.map b8).toArray, rfl, Nat.le_refl _, ?_, Nat.le_refl _, by unfold maxLen; decide, by simp [hy], ?_⟩⟩
  · show (w.heap.push _)[w.heap.size]? = _
    simp
  · exact List.take_of_length_le (by simp [hy])
theorem wp_appE {ops : Array Oper} {rest : List Oper} {o : Oper} {a : Act} {Q : Exit → Act → World → Prop} {w : World} (hgd : o.guard = none) (s x : Operand)
    (ho : o.op = .call { callee := .builtin .append, args := #[s, x], argTypes := #[53, 53] })
    (B : Nat) (v : Value) (n : Nat) (xs : List Nat) (k f m c : Nat) (ys : List Nat) (hs : a.eval s = v) (hown : Oe w B v n xs) (hx : a.eval x = .slice (some ⟨k, f, none⟩) m c) (hl : ys.length = m * 8) (hy : w.rangeAt k f (ys.map b8))
    (hm : n + m ≤ 65536) (hB : B ≤ w.heap.size) (h : ∀ v' w', Oe w' B v' (n + m) (xs ++ ys) → Below B w w' → wpList Try.prog ops Q rest (a.put o.dst v') w') : wpList Try.prog ops Q (o :: rest) a w := by
  obtain ⟨i0, hi, hz0, hz1, hz2⟩ := info_parts iE8
  refine wpList_append_own w hgd s x 53 ho B 51 i0 (aB (List.replicate 8 0)) 8 8 uEss hi hz0 hz1 hz2 rfl (by decide) v n (xs.map b8) hs hown ⟨k, f, none⟩ m c (ys.map b8) hx (by simp [hl]) ?_ (one_b8 ys) (by unfold maxLen; omega) (by omega) hB ?_
  · intro j u hj
    rw [Addr.add_lit]
    exact hy j u hj
  · intro v' w' hown' hg _
    refine h v' w' ?_ (Below.grown (Below.refl _ _) hg hB fun k hk => (World.ownsRow.lt hown k hk).1)
    unfold Oe
    rw [List.map_append]
    exact hown'
end Go.Proofs.Ytejabkmhpiabnaa
