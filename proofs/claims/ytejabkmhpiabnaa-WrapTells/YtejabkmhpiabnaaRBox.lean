/- The contracts of sealringref.Box and Unbox: the bytes put for all bytes. -/
import Derived.Test.YtejabkmhpiabnaaGrp9
import Derived.Test.YtejabkmhpiabnaaGrp6
namespace Go.Proofs.Ytejabkmhpiabnaa
open Go.RowKit
set_option linter.unusedSimpArgs false
namespace G
/-- Powers of 3, and their inverses. -/
theorem three_inv : ∀ k < 255, mul (pow 3 k) (pow 3 ((255 - k) % 255)) = 1 := by
  intro k hk
  rw [← pow_add (by decide)]
  by_cases h0 : k = 0
  · subst h0; decide +kernel
  · rw [show (255 - k) % 255 = 255 - k by omega, show k + (255 - k) = 255 by omega]
    exact pow255 3 (by decide) (by decide)
theorem inv_three {k : Nat} (hk : k < 255) : pow 3 ((255 - k) % 255) = inv (pow 3 k) := inv_only (pow_lt256 k) (pow_lt256 _) (three_inv k hk)
/-- How many of the bits are set that are taken for bit i: the first t of five. -/
def bitN (b i : Nat) : Nat → Nat
  | 0 => 99 / 2 ^ i % 2
  | t + 1 => bitN b i t + b / 2 ^ ((i + [0, 4, 5, 6, 7].getD t 0) % 8) % 2
/-- The first i bits of the byte put for b's inverse. -/
def boxN (b : Nat) : Nat → Nat
  | 0 => 0
  | i + 1 => boxN b i + bitN b i 5 % 2 * 2 ^ i
theorem box_aff : ∀ b < 256, boxN b 8 = aff b := by decide +kernel
theorem bitN_le (b i : Nat) : ∀ t, bitN b i t ≤ t + 1
  | 0 => by rw [bitN]; omega
  | t + 1 => by have := bitN_le b i t; rw [bitN]; omega
theorem boxN_lt (b : Nat) : ∀ i, boxN b i < 2 ^ i
  | 0 => by rw [boxN]; decide
  | i + 1 => by
    have ih := boxN_lt b i
    have h2 : bitN b i 5 % 2 * 2 ^ i ≤ 1 * 2 ^ i := Nat.mul_le_mul_right _ (by omega)
    rw [boxN, Nat.pow_succ]
    omega
def boxL : List Nat := (List.range 256).map sub
def unboxL : List Nat := (List.range 256).map unsub
end G
theorem u_a256 : Try.prog.underlying 42 = some (.array 256 5) := by kernel_rfl
theorem u_a255 : Try.prog.underlying 69 = some (.array 255 5) := by kernel_rfl
theorem info_a256 : (Try.prog.info? 42).map (·.size) = some 256 := by kernel_rfl
theorem info_a255 : (Try.prog.info? 69).map (·.size) = some 255 := by kernel_rfl
/-- So many bytes that are 0, as cells. -/
def zB (n : Nat) : List Value := (List.replicate n 0).map b8
theorem zB_length (n : Nat) : (zB n).length = n := by simp [zB]
theorem zero_of {t : TypeId} {v : Value} (h : (Try.prog.info? t).map (·.zero) = some (some v)) (w : World) : (zeroValue t).run Try.prog w = .ok v w := by
  cases hq : Try.prog.info? t with
  | none => simp [hq] at h
  | some d =>
    have hz : d.zero = some v := by simpa [hq] using h
    simp [zeroValue, typeInfo, hq, hz]
theorem zero_a256 (w : World) : (zeroValue 42).run Try.prog w = .ok (.agg (zB 256).toArray) w := zero_of (by kernel_rfl) w
theorem zero_a255 (w : World) : (zeroValue 69).run Try.prog w = .ok (.agg (zB 255).toArray) w := zero_of (by kernel_rfl) w
theorem al4 (w : World) (C0 C1 C2 C3 : Array Value) (t0 t1 t2 t3 : TypeId) : Blk ((((w.alloc (.cells C0 t0)).alloc (.cells C1 t1)).alloc (.cells C2 t2)).alloc (.cells C3 t3)) w.heap.size C0.toList ∧ Blk ((((w.alloc (.cells C0 t0)).alloc (.cells C1 t1)).alloc (.cells C2 t2)).alloc (.cells C3 t3)) (w.heap.size + 1) C1.toList ∧ Blk ((((w.alloc (.cells C0 t0)).alloc (.cells C1 t1)).alloc (.cells C2 t2)).alloc (.cells C3 t3)) (w.heap.size + 1 + 1) C2.toList ∧ Blk ((((w.alloc (.cells C0 t0)).alloc (.cells C1 t1)).alloc (.cells C2 t2)).alloc (.cells C3 t3)) (w.heap.size + 1 + 1 + 1) C3.toList ∧ Below w.heap.size w ((((w.alloc (.cells C0 t0)).alloc (.cells C1 t1)).alloc (.cells C2 t2)).alloc (.cells C3 t3)) := by
  obtain ⟨a0, a1, a2, a3⟩ := al3 w C0 C1 C2 t0 t1 t2
  obtain ⟨b0, b1⟩ := al1 (((w.alloc (.cells C0 t0)).alloc (.cells C1 t1)).alloc (.cells C2 t2)) C3 t3
  rw [show (((w.alloc (.cells C0 t0)).alloc (.cells C1 t1)).alloc (.cells C2 t2)).heap.size = w.heap.size + 1 + 1 + 1 by simp] at b0 b1
  exact ⟨a0.up b1 (by omega), a1.up b1 (by omega), a2.up b1 (by omega), b0, a3.trans (b1.mono (by omega))⟩
/-- The four rows that Box makes. -/
structure BX (w wr : World) (l1 l2 l3 : List Nat) : Prop where
  r0 : Blk wr w.heap.size (zB 256)
  r1 : Blk wr (w.heap.size + 1) (l1.map b8)
  r2 : Blk wr (w.heap.size + 1 + 1) (l2.map b8)
  r3 : Blk wr (w.heap.size + 1 + 1 + 1) (l3.map b8)
  be : Below w.heap.size w wr
theorem BX.up {w wr w1 : World} {l1 l2 l3 : List Nat} (h : BX w wr l1 l2 l3) (hb : Below wr.heap.size wr w1) : BX w w1 l1 l2 l3 :=
  ⟨h.r0.up hb h.r0.lt, h.r1.up hb h.r1.lt, h.r2.up hb h.r2.lt, h.r3.up hb h.r3.lt, h.be.trans (hb.mono h.be.size)⟩
theorem Blk.setB {w : World} {k : Nat} {l : List Nat} (h : Blk w k (l.map b8)) (j y : Nat) (hj : j < l.length) : Blk (w.setCell ⟨k, j, none⟩ (b8 y)) k ((l.set j y).map b8) := by
  rw [List.map_set]
  exact h.set j _ (by rw [List.length_map]; exact hj)
theorem BX.set1 {w wr : World} {l1 l2 l3 : List Nat} (h : BX w wr l1 l2 l3) (j y : Nat) (hj : j < l1.length) : BX w (wr.setCell ⟨w.heap.size + 1, j, none⟩ (b8 y)) (l1.set j y) l2 l3 :=
  ⟨h.r0.apart1 (by omega), h.r1.setB j y hj, h.r2.apart1 (by omega), h.r3.apart1 (by omega), h.be.setCell (p := ⟨w.heap.size + 1, j, none⟩) (Nat.le_succ _) _⟩
theorem BX.set2 {w wr : World} {l1 l2 l3 : List Nat} (h : BX w wr l1 l2 l3) (j y : Nat) (hj : j < l2.length) : BX w (wr.setCell ⟨w.heap.size + 1 + 1, j, none⟩ (b8 y)) l1 (l2.set j y) l3 :=
  ⟨h.r0.apart1 (by omega), h.r1.apart1 (by omega), h.r2.setB j y hj, h.r3.apart1 (by omega), h.be.setCell (p := ⟨w.heap.size + 1 + 1, j, none⟩) (by show w.heap.size ≤ w.heap.size + 1 + 1; omega) _⟩
theorem BX.set3 {w wr : World} {l1 l2 l3 : List Nat} (h : BX w wr l1 l2 l3) (j y : Nat) (hj : j < l3.length) : BX w (wr.setCell ⟨w.heap.size + 1 + 1 + 1, j, none⟩ (b8 y)) l1 l2 (l3.set j y) :=
  ⟨h.r0.apart1 (by omega), h.r1.apart1 (by omega), h.r2.apart1 (by omega), h.r3.setB j y hj, h.be.setCell (p := ⟨w.heap.size + 1 + 1 + 1, j, none⟩) (by show w.heap.size ≤ w.heap.size + 1 + 1 + 1; omega) _⟩
theorem Blk.byte {w : World} {k : Nat} {l : List Nat} (h : Blk w k (l.map b8)) (j : Nat) (hj : j < l.length) : w.cell? ⟨k, j, none⟩ = some (b8 (l.getD j 0)) :=
  h.cell j _ (by simp [List.getD_eq_getElem?_getD, hj])
/-- The first j of so many, and then 0. -/
def upL (f : Nat → Nat) (n j : Nat) : List Nat := (List.range j).map f ++ List.replicate (n - j) 0
theorem upL_length (f : Nat → Nat) (n j : Nat) (h : j ≤ n) : (upL f n j).length = n := by simp [upL]; omega
theorem upL_set (f : Nat → Nat) (n j : Nat) (h : j < n) : (upL f n j).set j (f j) = upL f n (j + 1) := by
  unfold upL
  rw [List.set_append_right _ _ (by simp), List.length_map, List.length_range, Nat.sub_self, show n - j = n - (j + 1) + 1 by omega, List.replicate_succ, List.set_cons_zero, List.range_succ, List.map_append, List.append_assoc]
  rfl
theorem upL_all (f : Nat → Nat) (n : Nat) : upL f n n = (List.range n).map f := by simp [upL]
theorem upL_zero (f : Nat → Nat) (n : Nat) : upL f n 0 = List.replicate n 0 := by simp [upL]
theorem range_getD (f : Nat → Nat) (n i : Nat) (h : i < n) : ((List.range n).map f).getD i 0 = f i := by simp [List.getD_eq_getElem?_getD, h]
theorem getD_set (l : List Nat) (i j y : Nat) (hi : i < l.length) : (l.set i y).getD j 0 = if i = j then y else l.getD j 0 := by
  simp only [List.getD_eq_getElem?_getD, List.getElem?_set]
  split
  · simp [hi]
  · rfl
theorem list_of (l : List Nat) (n : Nat) (f : Nat → Nat) (hl : l.length = n) (h : ∀ i, i < n → l.getD i 0 = f i) : l = (List.range n).map f := by
  apply List.ext_getElem?
  intro i
  rcases Nat.lt_or_ge i n with hi | hi
  · have := h i hi
    rw [List.getD_eq_getElem?_getD, List.getElem?_eq_getElem (by omega)] at this
    rw [List.getElem?_eq_getElem (by omega)]
    simp [hi]
    simpa using this
  · rw [List.getElem?_eq_none (by omega), List.getElem?_eq_none (by simp; omega)]
theorem box_step (B B' c n : Nat) (hn : n < 8) (hB : B < 2 ^ n) (hB' : B' = B + c % 2 * 2 ^ n) : ∃ r p : Nat, (c : Int).tmod 2 = (r : Int) ∧ (c : Int) % 2 = (r : Int) ∧ (r : Int) * 2 ^ n = (p : Int) ∧ wrap64 (p : Int) = (p : Int) ∧ IntKind.i64.wrap ((B : Int) + (p : Int)) = (B' : Int) := by
  refine ⟨c % 2, c % 2 * 2 ^ n, ?_, ?_, by simp, ?_, ?_⟩
  · rw [Int.tmod_eq_emod_of_nonneg (by omega)]; omega
  · omega
  all_goals
    have h7 : 2 ^ n ≤ 2 ^ 7 := Nat.pow_le_pow_right (by decide) (by omega)
    have h1 : c % 2 * 2 ^ n ≤ 1 * 2 ^ n := Nat.mul_le_mul_right _ (by omega)
    generalize 2 ^ n = q at *
    generalize c % 2 * q = p at *
  · unfold wrap64; omega
  · rw [IntKind.wrap_i64]; omega
theorem bit_step (b n kv N N' : Nat) (hn : n < 8) (hk : kv < 8) (hN : N ≤ 6) (hN' : N' = N + b / 2 ^ ((n + kv) % 8) % 2) : ∃ m q x : Nat, m < 8 ∧ IntKind.i64.wrap ((n : Int) + (kv : Int)) = (n : Int) + (kv : Int) ∧ ((n : Int) + (kv : Int)).tmod 8 = (m : Int) ∧ ((n : Int) + (kv : Int)) % 8 = (m : Int) ∧ (b : Int) / 2 ^ m = (q : Int) ∧ bits .and .i64 (q : Int) 1 = (x : Int) ∧ IntKind.i64.wrap ((N : Int) + (x : Int)) = (N' : Int) := by
  refine ⟨(n + kv) % 8, b / 2 ^ ((n + kv) % 8), b / 2 ^ ((n + kv) % 8) % 2, by omega, by rw [IntKind.wrap_i64]; omega, by rw [Int.tmod_eq_emod_of_nonneg (by omega)]; omega, by omega, by simp, g64_and1 _, ?_⟩
  generalize b / 2 ^ ((n + kv) % 8) = q at *
  rw [IntKind.wrap_i64]
  omega
set_option maxRecDepth 20000 in
set_option maxHeartbeats 1000000 in
theorem rbox_fun (w : World) : Calls Try.prog 17 #[] w fun e w' => e = .returned (aB G.boxL) ∧ Below w.heap.size w w' := by
  obtain ⟨T, hT⟩ : ∃ T : Nat → Nat, ∀ k, T k = G.pow 3 k := ⟨_, fun _ => rfl⟩
  have RG : Hid (∀ k W, Calls Try.prog 19 #[b8 (T k), b8 3] W fun e w' => e = .returned (b8 (T (k + 1))) ∧ w' = W) := fun k W => by
    rw [hT, hT]
    exact rgf_fun (G.pow 3 k) 3 (G.pow_lt256 k) (by decide) W
  have T0 : Hid (T 0 = 1) := by rw [hT]; exact rfl
  have TL : Hid (∀ k, T k < 256 ∧ T k ≠ 0) := fun k => by rw [hT]; exact ⟨G.pow_lt256 k, G.pow_ne (by decide) (by decide) k⟩
  obtain ⟨I, hI⟩ : ∃ I : Nat → Nat, ∀ k, I k = G.inv k := ⟨_, fun _ => rfl⟩
  have TI : Hid (∀ k, k < 255 → T ((255 - k) % 255) = I (T k)) := fun k hk => by rw [hT, hI, hT]; exact G.inv_three hk
  have I0 : Hid (I 0 = 0) := by rw [hI]; exact G.inv_zero
  have IL : Hid (∀ k, I k < 256) := fun k => by rw [hI]; exact G.inv_lt k
  have T3 : Hid (∀ a, a < 256 → a ≠ 0 → ∃ n, n < 255 ∧ T n = a) := fun a ha h => by
    obtain ⟨n, hn, e⟩ := G.three a ha h
    exact ⟨n, hn, (hT n).trans e⟩
  have IA : Hid (∀ a, G.boxN (I a) 8 = G.sub a) := fun a => by
    rw [hI, G.box_aff _ (G.inv_lt a)]
    exact rfl
  have SL : Hid (∀ a, G.sub a < 256) := G.sub_lt
  obtain ⟨x0, x1, x2, x3, x4⟩ := al4 w (zB 256).toArray (zB 256).toArray (zB 256).toArray (zB 255).toArray 42 42 42 69
  have X : Hid (BX w _ (List.replicate 256 0) (List.replicate 256 0) (upL T 255 0)) := ⟨x0, x1, x2, by rw [upL_zero]; exact x3, x4⟩
  clear x0 x1 x2 x3 x4 hT hI
  go_enter Try.func17, Try.ntmps17
  go_wp2_with (first | simp only [zero_a256] | simp only [zero_a255])
  try rw [show Try.zeroCells42 = (zB 256).toArray from rfl, show Try.zeroCells69 = (zB 255).toArray from rfl]
  generalize World.alloc (World.alloc (World.alloc (w.alloc _) _) _) _ = w1 at *
  go_loopw [3, 15] (fun x i wr => ∃ j : Nat, j ≤ 255 ∧ x = b8 (T j) ∧ i = .int .i64 (j : Int) ∧ Hid (BX w wr (List.replicate 256 0) (List.replicate 256 0) (upL T 255 j))) (fun _ i _ => 255 - (intOf i).toNat)
  case atStart => exact ⟨0, by omega, by rw [T0.out]; rfl, rfl, X⟩
  case round =>
    clear X
    obtain ⟨j, hj, rfl, rfl, X⟩ := hrel
    by_cases hj1 : j < 255
    · have j1 : (j : Int) < 255 := by omega
      have wj : IntKind.i64.wrap ((j : Int) + 1) = (j : Int) + 1 := by rw [IntKind.wrap_i64]; omega
      have cj := X.out.r3.byte j (by rw [upL_length _ _ _ hj]; exact hj1)
      have zj := X.out.r3.fz j
      have X2 : Hid (BX w (wr.setCell ⟨w.heap.size + 1 + 1 + 1, j, none⟩ (b8 (T j))) (List.replicate 256 0) (List.replicate 256 0) (upL T 255 (j + 1))) := by
        rw [← upL_set T 255 j hj1]
        exact X.out.set3 j (T j) (by rw [upL_length _ _ _ hj]; exact hj1)
      have CJ : Hid _ := RG.out j
      generalize (upL T 255 j).getD j 0 = old at *
      clear X
      go_wp2_with fail
      refine Calls.mono (CJ.out _) ?_
      rintro e w2 ⟨rfl, hw2⟩
      have X3 : Hid (BX w w2 (List.replicate 256 0) (List.replicate 256 0) (upL T 255 (j + 1))) := by rw [hw2]; exact X2
      clear hw2 X2 CJ cj zj
      go_wp2_with fail
      go_roundw
      case rel => exact ⟨j + 1, by omega, rfl, by first | rfl | go_num, X3⟩
      case measure => simp [intOf]; omega
    · obtain rfl : j = 255 := by omega
      rw [upL_all] at X
      have PL : Hid (((List.range 255).map T).length = 255) := by show _ = _; simp
      have PG : Hid (∀ i, i < 255 → ((List.range 255).map T).getD i 0 = T i) := fun i hi => range_getD T 255 i hi
      generalize (List.range 255).map T = P3 at *
      have ID : Hid _ := info_a255.trans (congrArg some (show 255 = (P3.map b8).length by rw [List.length_map, PL.out]))
      have IX : Hid (∀ (i : Nat) (W : World), i < 255 → (Instr.index 69 (.agg (P3.map b8).toArray) (.int .i64 (i : Int))).run Try.prog W = .ok (b8 (T i)) W) := fun i W hi => by
        rw [run_idxB u_a255 P3 PL.out i hi, PG.out i hi]
      clear hj1 hj
      go_wp2_with (refine wpList_load_mid rfl 69 (.tmp 4) rfl (w.heap.size + 1 + 1 + 1) 0 rfl (P3.map b8) _ X.out.r3.all u_a255 rfl ID.out ?_)
      generalize Value.agg (P3.map b8).toArray = vP at *
      have L0 : Hid ((List.replicate 256 0 : List Nat).length = 256 ∧ (∀ k, k < 0 → (List.replicate 256 0 : List Nat).getD (T k) 0 = I (T k)) ∧ (List.replicate 256 0 : List Nat).getD 0 0 = 0) := ⟨by simp, fun k hk => absurd hk (Nat.not_lt_zero _), rfl⟩
      obtain ⟨z2, hz2⟩ : ∃ z2 : List Nat, z2 = List.replicate 256 0 := ⟨_, rfl⟩
      rw [← hz2] at X L0
      have Z2 : Hid (z2 = List.replicate 256 0) := hz2
      clear hz2
      go_loopw [25] (fun i wr => ∃ (j : Nat) (l2 : List Nat), j ≤ 255 ∧ i = .int .i64 (j : Int) ∧ Hid (l2.length = 256 ∧ (∀ k, k < j → l2.getD (T k) 0 = I (T k)) ∧ l2.getD 0 0 = 0) ∧ Hid (BX w wr z2 l2 P3)) (fun i _ => 255 - (intOf i).toNat)
      case atStart => exact ⟨0, z2, by omega, rfl, L0, X⟩
      case round =>
        clear X L0
        obtain ⟨j, l2, hj, rfl, L2, X⟩ := hrel
        by_cases hj1 : j < 255
        · have j1 : (j : Int) < 255 := by omega
          have wj : IntKind.i64.wrap ((j : Int) + 1) = (j : Int) + 1 := by rw [IntKind.wrap_i64]; omega
          obtain ⟨q, hq⟩ : ∃ q, q = (255 - j) % 255 := ⟨_, rfl⟩
          have q1 : q < 255 := by omega
          have q2 : (q : Int) < 255 := by omega
          have wq : IntKind.i64.wrap (255 - (j : Int)) = 255 - (j : Int) := by rw [IntKind.wrap_i64]; omega
          have wr1 : (255 - (j : Int)).tmod 255 = (q : Int) := by rw [Int.tmod_eq_emod_of_nonneg (by omega)]; omega
          have wr2 : (255 - (j : Int)) % 255 = (q : Int) := by omega
          have IJ := IX.out j wr hj1
          have TJ := TL.out j
          have cq := X.out.r3.byte q (by rw [PL.out]; exact q1)
          rw [PG.out q q1, hq, TI.out j hj1, ← hq] at cq
          have KK : Hid (∀ k, k < j → T k = T j → True) := fun _ _ _ => trivial
          obtain ⟨y, hy⟩ : ∃ y, T j = y := ⟨_, rfl⟩
          rw [hy] at IJ TJ cq
          have HY : Hid (T j = y) := hy
          have y1 := TJ.1
          have y2 : (y : Int) < 256 := by omega
          have cy := X.out.r2.byte y (by rw [L2.out.1]; exact y1)
          have zy := X.out.r2.fz y
          have X2 : Hid (BX w (wr.setCell ⟨w.heap.size + 1 + 1, y, none⟩ (b8 (I y))) z2 (l2.set y (I y)) P3) := X.out.set2 y (I y) (by rw [L2.out.1]; exact y1)
          have L3 : Hid ((l2.set y (I y)).length = 256 ∧ (∀ k, k < j + 1 → (l2.set y (I y)).getD (T k) 0 = I (T k)) ∧ (l2.set y (I y)).getD 0 0 = 0) := by
            refine ⟨by rw [List.length_set]; exact L2.out.1, fun k hk => ?_, ?_⟩
            · rw [getD_set _ _ _ _ (by rw [L2.out.1]; exact y1)]
              split
              · rename_i h; rw [← h]
              · rename_i h
                rcases Nat.lt_succ_iff_lt_or_eq.1 hk with h1 | rfl
                · exact L2.out.2.1 k h1
                · exact absurd HY.out.symm h
            · rw [getD_set _ _ _ _ (by rw [L2.out.1]; exact y1), if_neg TJ.2]
              exact L2.out.2.2
          generalize l2.getD y 0 = old at *
          generalize l2.set y (I y) = l3 at *
          generalize I y = iy at *
          clear X hy hq L2 TJ KK
          go_wp2_with fail
          go_roundw
          case rel => exact ⟨j + 1, l3, by omega, by first | rfl | go_num, L3, X2⟩
          case measure => simp [intOf]; omega
        · obtain rfl : j = 255 := by omega
          have LI : Hid (∀ a, a < 256 → l2.getD a 0 = I a) := fun a ha => by
            by_cases h : a = 0
            · rw [h, L2.out.2.2, I0.out]
            · obtain ⟨n, hn, e⟩ := T3.out a ha h
              rw [← e]
              exact L2.out.2.1 n hn
          have LL : Hid (l2.length = 256) := L2.out.1
          clear L2 hj1 hj IX
          have X1 : Hid (BX w wr (upL G.sub 256 0) l2 P3) := by rw [upL_zero, ← Z2.out]; exact X
          obtain ⟨SB, hSB⟩ : ∃ SB : Nat → Nat, SB = G.sub := ⟨_, rfl⟩
          rw [← hSB] at X1 IA SL
          have HSB : Hid (SB = G.sub) := hSB
          clear X hSB
          go_wp2_with fail
          go_loopw [37] (fun i wr => ∃ j : Nat, j ≤ 256 ∧ i = .int .i64 (j : Int) ∧ Hid (BX w wr (upL SB 256 j) l2 P3)) (fun i _ => 256 - (intOf i).toNat)
          case atStart => exact ⟨0, by omega, rfl, X1⟩
          case round =>
            clear X1
            obtain ⟨j, hj, rfl, X⟩ := hrel
            by_cases hj1 : j < 256
            · have j1 : (j : Int) < 256 := by omega
              have wj : IntKind.i64.wrap ((j : Int) + 1) = (j : Int) + 1 := by rw [IntKind.wrap_i64]; omega
              have cj := X.out.r2.byte j (by rw [LL.out]; exact hj1)
              rw [LI.out j hj1] at cj
              have BB : Hid _ := IA.out j
              have b1 := IL.out j
              obtain ⟨b, hb⟩ : ∃ b, I j = b := ⟨_, rfl⟩
              rw [hb] at cj BB b1
              have wb : wrap64 (b : Int) = (b : Int) := by unfold wrap64; omega
              have wb2 : IntKind.i64.wrap (b : Int) = (b : Int) := by rw [IntKind.wrap_i64]; omega
              have J1 : Hid (j < 256) := hj1
              obtain ⟨BN, hBN⟩ : ∃ BN : Nat → Nat, ∀ i, BN i = G.boxN b i := ⟨_, fun _ => rfl⟩
              obtain ⟨NN, hNN⟩ : ∃ NN : Nat → Nat → Nat, ∀ i t, NN i t = G.bitN b i t := ⟨_, fun _ _ => rfl⟩
              rw [← hBN] at BB
              have BN0 : Hid (BN 0 = 0) := by rw [hBN]; exact rfl
              have BNS : Hid (∀ i, BN (i + 1) = BN i + NN i 5 % 2 * 2 ^ i ∧ BN i < 2 ^ i) := fun i => ⟨by rw [hBN, hBN, hNN]; rfl, by rw [hBN]; exact G.boxN_lt b i⟩
              have NN0 : Hid (∀ i, NN i 0 = 99 / 2 ^ i % 2) := fun i => by rw [hNN]; rfl
              have NNS : Hid (∀ i t, NN i (t + 1) = NN i t + b / 2 ^ ((i + [0, 4, 5, 6, 7].getD t 0) % 8) % 2 ∧ NN i t ≤ t + 1) := fun i t => ⟨by rw [hNN, hNN]; rfl, by rw [hNN]; exact G.bitN_le b i t⟩
              clear hb hBN hNN hj hj1
              go_wp2_with fail
              go_loopw [10, 44] (fun x i wr => ∃ n : Nat, n ≤ 8 ∧ x = .int .i64 ((BN n : Nat) : Int) ∧ i = .int .i64 (n : Int) ∧ Hid (BX w wr (upL SB 256 j) l2 P3)) (fun _ i _ => 8 - (intOf i).toNat)
              case atStart => exact ⟨0, by omega, by rw [BN0.out]; rfl, rfl, X⟩
              case round =>
                clear X cj
                obtain ⟨n, hn, rfl, rfl, X⟩ := hrel
                by_cases hn1 : n < 8
                · have n1 : (n : Int) < 8 := by omega
                  have n64 : n ≤ 64 := by omega
                  have wn : IntKind.i64.wrap ((n : Int) + 1) = (n : Int) + 1 := by rw [IntKind.wrap_i64]; omega
                  obtain ⟨q9, hq9⟩ : ∃ q, q = 99 / 2 ^ n := ⟨_, rfl⟩
                  have e9 : (99 : Int) / 2 ^ n = (q9 : Int) := by rw [hq9]; simp
                  have A9 := g64_and1 q9
                  rw [hq9, ← NN0.out n, ← hq9] at A9
                  clear hq9
                  obtain ⟨y0, y1⟩ := al1 wr #[Value.int IntKind.i64 0, Value.int IntKind.i64 4, Value.int IntKind.i64 5, Value.int IntKind.i64 6, Value.int IntKind.i64 7] 3
                  have YG : Hid (Blk _ wr.heap.size ([0, 4, 5, 6, 7].map fun z : Nat => Value.int IntKind.i64 (z : Int))) := y0
                  have Y : Hid (BX w _ (upL SB 256 j) l2 P3) := X.out.up y1
                  clear y0 y1 X
                  go_wp2_with fail
                  generalize wr.alloc _ = w5 at *
                  generalize wr.heap.size = g at *
                  obtain ⟨ks, hks⟩ : ∃ ks : List Nat, ks = [0, 4, 5, 6, 7] := ⟨_, rfl⟩
                  have KL : Hid (∀ t, t < 5 → ks.getD t 0 < 8 ∧ (ks.map fun z : Nat => Value.int IntKind.i64 (z : Int))[t]? = some (.int .i64 ((ks.getD t 0 : Nat) : Int))) := by
                    rw [hks]
                    intro t ht
                    match t, ht with
                    | 0, _ => exact ⟨by decide, rfl⟩
                    | 1, _ => exact ⟨by decide, rfl⟩
                    | 2, _ => exact ⟨by decide, rfl⟩
                    | 3, _ => exact ⟨by decide, rfl⟩
                    | 4, _ => exact ⟨by decide, rfl⟩
                  have YK : Hid (Blk w5 g (ks.map fun z : Nat => Value.int IntKind.i64 (z : Int))) := by rw [hks]; exact YG
                  rw [← hks] at NNS
                  have N1 : Hid (n < 8) := hn1
                  clear hks YG hn hn1 A9 e9
                  go_loopw [12, 52] (fun x i wr => ∃ t : Nat, t ≤ 5 ∧ x = .int .i64 ((NN n t : Nat) : Int) ∧ i = .int .i64 (t : Int) ∧ Hid (Blk wr g (ks.map fun z : Nat => Value.int IntKind.i64 (z : Int))) ∧ Hid (BX w wr (upL SB 256 j) l2 P3)) (fun _ i _ => 5 - (intOf i).toNat)
                  case atStart => exact ⟨0, by omega, rfl, rfl, YK, Y⟩
                  case round =>
                    clear YK Y
                    obtain ⟨t, ht, rfl, rfl, YK, Y⟩ := hrel
                    have N1' := N1.out
                    by_cases ht1 : t < 5
                    · have t1 : (t : Int) < 5 := by omega
                      have wt : IntKind.i64.wrap ((t : Int) + 1) = (t : Int) + 1 := by rw [IntKind.wrap_i64]; omega
                      obtain ⟨k8, kc⟩ := KL.out t ht1
                      have ck := YK.out.cell t _ kc
                      obtain ⟨ns, nl⟩ := NNS.out n t
                      obtain ⟨kv, hkv⟩ : ∃ kv, ks.getD t 0 = kv := ⟨_, rfl⟩
                      rw [hkv] at k8 ck ns
                      obtain ⟨m, qb, bit, m8, wa, m1, m2, eb, AB, ws⟩ := bit_step b n kv _ _ N1.out k8 (by omega) ns
                      have T5 : Hid (t < 5) := ht1
                      obtain ⟨old, hold⟩ : ∃ old, old = NN n t := ⟨_, rfl⟩
                      rw [← hold] at ws ⊢
                      clear hkv hold ns nl kc k8 ht ht1 N1'
                      go_wp2_with fail
                      go_roundw
                      case rel => exact ⟨t + 1, T5.out, by first | rfl | go_num, by first | rfl | go_num, YK, Y⟩
                      case measure => have := T5.out; simp [intOf]; omega
                    · obtain rfl : t = 5 := by omega
                      obtain ⟨bs, bl⟩ := BNS.out n
                      obtain ⟨_, nl⟩ := NNS.out n 5
                      obtain ⟨c, hc⟩ : ∃ c, c = NN n 5 := ⟨_, rfl⟩
                      rw [← hc] at bs nl ⊢
                      obtain ⟨r, p, r1, r2, ep, wp, ws⟩ := box_step _ _ c n N1.out bl bs
                      clear hc bs bl nl
                      obtain ⟨old, hold⟩ : ∃ old, old = BN n := ⟨_, rfl⟩
                      rw [← hold] at ws
                      generalize BN n = old2 at *
                      subst hold
                      clear N1' ht ht1
                      go_wp2_with fail
                      go_roundw
                      case rel => exact ⟨n + 1, N1.out, by first | rfl | go_num, by first | rfl | go_num, Y⟩
                      case measure => have := N1.out; simp [intOf]; omega
                · obtain rfl : n = 8 := by omega
                  have SJ := SL.out j
                  rw [BB.out]
                  have w8 : IntKind.u8.wrap ((SB j : Nat) : Int) = ((SB j : Nat) : Int) := by rw [IntKind.wrap_u8]; omega
                  have J1' := J1.out
                  have cj := X.out.r1.byte j (by rw [upL_length _ _ _ (by omega)]; exact J1.out)
                  have zj := X.out.r1.fz j
                  have X2 : Hid (BX w (wr.setCell ⟨w.heap.size + 1, j, none⟩ (b8 (SB j))) (upL SB 256 (j + 1)) l2 P3) := by
                    rw [← upL_set SB 256 j J1.out]
                    exact X.out.set1 j (SB j) (by rw [upL_length _ _ _ (by omega)]; exact J1.out)
                  generalize (upL SB 256 j).getD j 0 = old at *
                  generalize SB j = sj at *
                  clear X hn hn1
                  go_wp2_with fail
                  go_roundw
                  case rel => exact ⟨j + 1, J1.out, by first | rfl | go_num, X2⟩
                  case measure => have := J1.out; simp [intOf]; omega
            · obtain rfl : j = 256 := by omega
              rw [upL_all] at X
              have BE : Hid ((List.range 256).map SB = G.boxL) := by rw [HSB.out]; exact rfl
              rw [BE.out] at X
              have BLn : Hid (G.boxL.length = 256) := by show _ = _; simp [G.boxL]
              obtain ⟨bx, hbx⟩ : ∃ bx, bx = G.boxL := ⟨_, rfl⟩
              rw [← hbx] at X BLn
              have HBX : Hid (bx = G.boxL) := hbx
              clear hbx BE
              have ID : Hid _ := info_a256.trans (congrArg some (show 256 = (bx.map b8).length by rw [List.length_map, BLn.out]))
              have T0 : Hid (wr.there w.heap.size 0 (bx.map b8).length) := X.out.r0.there (by rw [List.length_map, BLn.out, zB_length]; omega)
              clear hj hj1
              go_wp2_with (first | refine wpList_load_mid rfl 42 (.tmp 1) rfl (w.heap.size + 1) 0 rfl (bx.map b8) _ X.out.r1.all u_a256 rfl ID.out ?_ | refine wp_store_eq rfl 42 (.tmp 0) (.tmp 78) rfl w.heap.size 0 (bx.map b8) rfl rfl T0.out ID.out (one_b8 _) ?_)
              intro w9 hw9
              go_wp2_with fail
              refine bodyPost_ret (v := aB bx) ?_ rfl ⟨by rw [HBX.out], ?_⟩
              · rw [hw9.out]
                exact results_cell (b := w.heap.size) rfl rfl (World.rangeAt_setCells_same _ _ _ _ T0.out) u_a256 rfl ID.out
              · rw [hw9.out]
                exact below_setCells _ _ _ X.out.be (Nat.le_refl _)
theorem box_get {a : Nat} (h : a < 256) : G.boxL.getD a 0 = G.sub a := range_getD G.sub 256 a h
theorem unbox_get {a : Nat} (h : a < 256) : G.unboxL.getD a 0 = G.unsub a := range_getD G.unsub 256 a h
set_option maxRecDepth 20000 in
set_option maxHeartbeats 1000000 in
theorem runbox_fun (w : World) : Calls Try.prog 18 #[aB G.boxL] w fun e w' => e = .returned (aB G.unboxL) ∧ Below w.heap.size w w' := by
  obtain ⟨SB, hSB⟩ : ∃ SB : Nat → Nat, SB = G.sub := ⟨_, rfl⟩
  have BG : Hid (∀ a, a < 256 → G.boxL.getD a 0 = SB a) := fun a h => by rw [hSB]; exact box_get h
  have SL : Hid (∀ a, SB a < 256) := by rw [hSB]; exact G.sub_lt
  have FIN : Hid (∀ l : List Nat, l.length = 256 → (∀ k, k < 256 → l.getD (SB k) 0 = k) → l = G.unboxL) := fun l hl h => by
    refine list_of l 256 G.unsub hl fun i hi => ?_
    have := h (G.unsub i) (G.unsub_lt i)
    rw [hSB, G.sub_unsub hi] at this
    exact this
  have INJ : Hid (∀ a b, a < 256 → b < 256 → SB a = SB b → a = b) := fun a b ha hb h => by
    rw [hSB] at h
    exact (G.sub_inj ha hb).1 h
  have BL : Hid (G.boxL.length = 256) := by show _ = _; simp [G.boxL]
  clear hSB
  obtain ⟨bx, hbx⟩ : ∃ bx, bx = G.boxL := ⟨_, rfl⟩
  rw [← hbx] at BG BL ⊢
  clear hbx
  have ID : Hid _ := info_a256.trans (congrArg some (show 256 = (bx.map b8).length by rw [List.length_map, BL.out]))
  have IX : Hid (∀ (i : Nat) (W : World), i < 256 → (Instr.index 42 (.agg (bx.map b8).toArray) (.int .i64 (i : Int))).run Try.prog W = .ok (b8 (SB i)) W) := fun i W hi => by
    rw [run_idxB u_a256 bx BL.out i hi, BG.out i hi]
  obtain ⟨x0, x1, x2, x3⟩ := al3 w (bx.map b8).toArray (zB 256).toArray (zB 256).toArray 42 42 42
  have X0 : Hid (Blk _ w.heap.size (bx.map b8)) := x0
  have X1 : Hid (Blk _ (w.heap.size + 1) (zB 256)) := x1
  have X2 : Hid (Blk _ (w.heap.size + 1 + 1) ((List.replicate 256 0).map b8)) := x2
  have X3 : Hid (Below w.heap.size w _) := x3
  clear x0 x1 x2 x3
  go_enter Try.func18, Try.ntmps18
  go_wp2_with (first | simp only [zero_a256] | refine wpList_load_mid rfl 42 (.tmp 1) rfl w.heap.size 0 rfl (bx.map b8) _ X0.out.all u_a256 rfl ID.out ?_)
  try rw [show Try.zeroCells42 = (zB 256).toArray from rfl]
  generalize World.alloc (World.alloc (w.alloc _) _) _ = w1 at *
  generalize Value.agg (bx.map b8).toArray = vB0 at *
  have L0 : Hid ((List.replicate 256 0 : List Nat).length = 256 ∧ ∀ k, k < 0 → (List.replicate 256 0 : List Nat).getD (SB k) 0 = k) := ⟨by simp, fun k hk => absurd hk (Nat.not_lt_zero _)⟩
  generalize (List.replicate 256 0 : List Nat) = z2 at *
  clear X0
  go_loopw [7] (fun i wr => ∃ (j : Nat) (l : List Nat), j ≤ 256 ∧ i = .int .i64 (j : Int) ∧ Hid (l.length = 256 ∧ ∀ k, k < j → l.getD (SB k) 0 = k) ∧ Hid (Blk wr (w.heap.size + 1) (zB 256)) ∧ Hid (Blk wr (w.heap.size + 1 + 1) (l.map b8)) ∧ Hid (Below w.heap.size w wr)) (fun i _ => 256 - (intOf i).toNat)
  case atStart => exact ⟨0, z2, by omega, rfl, L0, X1, X2, X3⟩
  case round =>
    clear X1 X2 X3 L0
    obtain ⟨j, l, hj, rfl, L2, X1, X2, X3⟩ := hrel
    by_cases hj1 : j < 256
    · have j1 : (j : Int) < 256 := by omega
      have wj : IntKind.i64.wrap ((j : Int) + 1) = (j : Int) + 1 := by rw [IntKind.wrap_i64]; omega
      have w8 : IntKind.u8.wrap (j : Int) = (j : Int) := by rw [IntKind.wrap_u8]; omega
      have IJ := IX.out j wr hj1
      have y1 := SL.out j
      have HI : Hid (∀ k, k < j → SB k ≠ SB j) := fun k hk e => by
        have := INJ.out k j (by omega) hj1 e
        omega
      obtain ⟨y, hy⟩ : ∃ y, SB j = y := ⟨_, rfl⟩
      rw [hy] at IJ y1 HI
      have HY : Hid (SB j = y) := hy
      have y2 : (y : Int) < 256 := by omega
      have cy := X2.out.byte y (by rw [L2.out.1]; exact y1)
      have zy := X2.out.fz y
      have Y2 : Hid (Blk (wr.setCell ⟨w.heap.size + 1 + 1, y, none⟩ (b8 j)) (w.heap.size + 1 + 1) ((l.set y j).map b8)) := X2.out.setB y j (by rw [L2.out.1]; exact y1)
      have Y1 : Hid (Blk (wr.setCell ⟨w.heap.size + 1 + 1, y, none⟩ (b8 j)) (w.heap.size + 1) (zB 256)) := X1.out.apart1 (by omega)
      have Y3 : Hid (Below w.heap.size w (wr.setCell ⟨w.heap.size + 1 + 1, y, none⟩ (b8 j))) := X3.out.setCell (p := ⟨w.heap.size + 1 + 1, y, none⟩) (by show w.heap.size ≤ w.heap.size + 1 + 1; omega) _
      have L3 : Hid ((l.set y j).length = 256 ∧ ∀ k, k < j + 1 → (l.set y j).getD (SB k) 0 = k) := by
        refine ⟨by rw [List.length_set]; exact L2.out.1, fun k hk => ?_⟩
        rw [getD_set _ _ _ _ (by rw [L2.out.1]; exact y1)]
        rcases Nat.lt_succ_iff_lt_or_eq.1 hk with h1 | rfl
        · rw [if_neg (fun e => HI.out k h1 e.symm)]
          exact L2.out.2 k h1
        · rw [if_pos HY.out.symm]
      generalize l.getD y 0 = old at *
      generalize l.set y j = l3 at *
      clear X1 X2 X3 hy L2
      go_wp2_with fail
      go_roundw
      case rel => exact ⟨j + 1, l3, by omega, by first | rfl | go_num, L3, Y1, Y2, Y3⟩
      case measure => simp [intOf]; omega
    · obtain rfl : j = 256 := by omega
      have E := FIN.out l L2.out.1 L2.out.2
      have HE : Hid (l = G.unboxL) := E
      have LL : Hid (l.length = 256) := L2.out.1
      clear L2 FIN E hj hj1 IX
      have I2 : Hid _ := info_a256.trans (congrArg some (show 256 = (l.map b8).length by rw [List.length_map, LL.out]))
      have T0 : Hid (wr.there (w.heap.size + 1) 0 (l.map b8).length) := X1.out.there (by rw [List.length_map, LL.out, zB_length]; omega)
      go_wp2_with (first | refine wpList_load_mid rfl 42 (.tmp 3) rfl (w.heap.size + 1 + 1) 0 rfl (l.map b8) _ X2.out.all u_a256 rfl I2.out ?_ | refine wp_store_eq rfl 42 (.tmp 2) (.tmp 16) rfl (w.heap.size + 1) 0 (l.map b8) rfl rfl T0.out I2.out (one_b8 _) ?_)
      intro w9 hw9
      go_wp2_with fail
      refine bodyPost_ret (v := aB l) ?_ rfl ⟨by rw [HE.out], ?_⟩
      · rw [hw9.out]
        exact results_cell (b := w.heap.size + 1) rfl rfl (World.rangeAt_setCells_same _ _ _ _ T0.out) u_a256 rfl I2.out
      · rw [hw9.out]
        exact below_setCells _ _ _ X3.out (by omega)
end Go.Proofs.Ytejabkmhpiabnaa
