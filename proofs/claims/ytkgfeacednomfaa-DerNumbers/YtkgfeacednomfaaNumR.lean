/- The contract of der.ReadNumber. -/
import Derived.Test.YtkgfeacednomfaaNumb
import Derived.Test.YtkgfeacednomfaaDerFi
import Derived.Laws.Rows
namespace Go.Proofs.Ytkgfeacednomfaa
open Go.RowKit
set_option linter.unusedSimpArgs false
attribute [local go_sem] cell_al
theorem num_frozen {w : World} {k t : Nat} {cs : Array Value} (h : w.heap[k]? = some (.cells cs t (0, 0))) : w.frozen? ⟨k, 0, none⟩ = false ∧ w.frozen? ⟨k, 1, none⟩ = false ∧ w.frozen? ⟨k, 2, none⟩ = false ∧ w.frozen? ⟨k, 3, none⟩ = false := by simp [World.frozen?, h]
theorem or_low (A x : Nat) (hA : A < 18446744073709551616) (h0 : A % 256 = 0) (hx : x < 256) : bits .or .u64 (A : Int) (x : Int) = ((A + x : Nat) : Int) := by
  have e : A ||| x = A + x := by
    have := Nat.two_pow_add_eq_or_of_lt (i := 8) (b := x) hx (A / 256)
    have e2 : 2 ^ 8 * (A / 256) = A := by omega
    rw [e2] at this
    exact this.symm
  have h1 : (BitVec.ofInt 64 (A : Int)).toNat = A := by rw [BitVec.toNat_ofInt]; omega
  have h2 : (BitVec.ofInt 64 (x : Int)).toNat = x := by rw [BitVec.toNat_ofInt]; omega
  show IntKind.u64.wrap ((BitVec.ofInt 64 (A : Int) ||| BitVec.ofInt 64 (x : Int)).toNat : Nat) = ((A + x : Nat) : Int)
  rw [BitVec.toNat_or, h1, h2, e]
  simp [IntKind.wrap, IntKind.signed, IntKind.bits]
  omega
theorem of_or (Z : Int) (x : Nat) (_ : 0 ≤ Z) (hx : x < 256) : (⟨(Nm.of (Z * 256)).a + (x : Int), (Nm.of (Z * 256)).b, (Nm.of (Z * 256)).c, (Nm.of (Z * 256)).d⟩ : Nm) = Nm.of (Z * 256 + (x : Int)) := by
  simp only [Nm.of, Nm.mk.injEq]
  refine ⟨by omega, by omega, by omega, by omega⟩
theorem set5_same (w : World) {g t : Nat} {p q r s : Value} (a b c d e : Value) (h : w.heap[g]? = some (.cells #[p, q, r, s] t (0, 0))) :
    (((((w.setCell ⟨g, 0, none⟩ a).setCell ⟨g, 1, none⟩ b).setCell ⟨g, 2, none⟩ c).setCell ⟨g, 3, none⟩ d).setCell ⟨g, 0, none⟩ e).heap[g]? = some (.cells #[e, b, c, d] t (0, 0)) := by
  have h1 := heap_setCell_same w g 0 _ t a h
  have h2 := heap_setCell_same _ g 1 _ t b h1
  have h3 := heap_setCell_same _ g 2 _ t c h2
  have h4 := heap_setCell_same _ g 3 _ t d h3
  have h5 := heap_setCell_same _ g 0 _ t e h4
  rw [h5]
  rfl
theorem set5_other (w : World) (g k : Nat) (a b c d e : Value) (h : k ≠ g) :
    (((((w.setCell ⟨g, 0, none⟩ a).setCell ⟨g, 1, none⟩ b).setCell ⟨g, 2, none⟩ c).setCell ⟨g, 3, none⟩ d).setCell ⟨g, 0, none⟩ e).heap[k]? = w.heap[k]? := by
  rw [heap_setCell_other _ _ _ _ h, heap_setCell_other _ _ _ _ h, heap_setCell_other _ _ _ _ h, heap_setCell_other _ _ _ _ h, heap_setCell_other _ _ _ _ h]
/-- The block g holds the number of the first k bytes. -/
def AccAt (W : World) (g : Nat) (c : List Nat) (k : Nat) : Prop := ∃ r : Nm, r = Nm.of ((beN (c.take k) : Nat) : Int) ∧ W.heap[g]? = some (.cells #[.int .u64 r.a, .int .u64 r.b, .int .u64 r.c, .int .u64 r.d] 24 (0, 0))
/-- What ReadNumber answers. -/
def NumIs (b : List Nat) (e : Ending) : Prop :=
  (∃ n, readNumS b = .inl n ∧ e = .returned (.tuple #[N ⟨0, 0, 0, 0⟩, i64 n])) ∨ (∃ X, readNumS b = .inr X ∧ e = .returned (.tuple #[N (Nm.of ((X : Nat) : Int)), i64 0]))
set_option maxRecDepth 20000 in
set_option maxHeartbeats 2000000 in
theorem readNumber_plain (bk oo cp : Nat) (c : List Nat) (low : ∀ x ∈ c, x < 256) (w : World) (h : ∀ j, j < c.length → w.cell? ⟨bk, oo + j, none⟩ = some (b8 (c.getD j 0))) (hl : 1 ≤ c.length) (p1 : c.getD 0 0 < 128) (p2 : c.getD 0 0 ≠ 0) (h32 : c.length ≤ 32) :
    Calls Try.prog 47 #[.slice (some ⟨bk, oo, none⟩) c.length cp] w fun e w' => NumIs c e ∧ Below w.heap.size w w' := by
  have ER : Hid (readNumS c = .inr (beN c)) := by
    have : readNumS c = .inr (beN c) := by
      unfold readNumS
      rw [if_neg (by omega), if_neg (by omega), if_neg (by rw [if_neg p2]; omega)]
    exact this
  have HC : Hid _ := h
  have LO : Hid (∀ x ∈ c, x < 256) := low
  have c0 := h 0 (by omega)
  rw [Nat.add_zero] at c0
  obtain ⟨t0, ht0⟩ : ∃ t0, t0 = c.getD 0 0 := ⟨_, rfl⟩
  rw [← ht0] at c0 p1 p2
  have n0 : ¬ (c.length : Int) = 0 := by omega
  have n1 : ¬ (c.length : Int) > 32 := by omega
  have n2 : (0 : Int) < (c.length : Int) := by omega
  have t1 : ¬ (t0 : Int) ≥ 128 := by omega
  have t2 : ¬ (t0 : Int) = 0 := by omega
  have t3 : ((t0 : Int) == 0) = false := beq_eq_false_iff_ne.2 t2
  clear h low ht0 t2
  go_enter Try.func47, Try.ntmps47
  go_wp2_with fail
  go_loopw [45] (fun ix wr => ∃ (k : Nat), k ≤ c.length ∧ ix = .int .i64 k ∧ Hid (wr.heap[w.heap.size]? = some (.cells #[.int .u64 0, .int .u64 0, .int .u64 0, .int .u64 0] 24 (0, 0))) ∧ Hid (AccAt wr (w.heap.size + 1) c k) ∧ Hid (Below w.heap.size w wr)) (fun ix _ => c.length - (intOf ix).toNat)
  case atStart =>
    refine ⟨0, by omega, rfl, heap_new2 w _ _, ?_, ((Below.refl _ _).alloc (Nat.le_refl _) _).alloc (by simp) _⟩
    have := heap_alloc_new (w.alloc (.cells #[.int .u64 0, .int .u64 0, .int .u64 0, .int .u64 0] 24)) (.cells #[.int .u64 0, .int .u64 0, .int .u64 0, .int .u64 0] 24)
    rw [show (w.alloc (.cells #[.int .u64 0, .int .u64 0, .int .u64 0, .int .u64 0] 24)).heap.size = w.heap.size + 1 by simp] at this
    exact (⟨⟨0, 0, 0, 0⟩, by rw [List.take_zero]; rfl, this⟩ : AccAt _ _ c 0)
  case round =>
    obtain ⟨k, hk, rfl, hz, hr, hb⟩ := hrel
    obtain ⟨r, er, hcell⟩ := hr.out
    have HR : Hid (wr.heap[w.heap.size + 1]? = _) := hcell
    obtain ⟨f0, f1, f2, f3⟩ := num_cells hcell
    clear hcell hr
    by_cases h1 : k < c.length
    · have i1 : (k : Int) < (c.length : Int) := by omega
      obtain ⟨x, hx⟩ : ∃ x, c[k]? = some x := ⟨c[k], by simp [h1]⟩
      have c1 := HC.out k h1
      rw [List.getD_eq_getElem?_getD, hx] at c1
      replace c1 : w.cell? ⟨bk, oo + k, none⟩ = some (b8 x) := c1
      have c2 := (hb.out.cell (p := ⟨bk, _, none⟩) (lt_of_cellB c1)).trans c1
      have x1 := LO.out x (List.mem_of_getElem? hx)
      have x0 : (0 : Int) ≤ (x : Int) := by omega
      have x2 : (x : Int) < 256 := by omega
      have HT : Hid (beN (c.take (k + 1)) = beN (c.take k) * 256 + x) := by
        have : c.take (k + 1) = c.take k ++ [x] := by rw [List.take_add_one, hx]; rfl
        rw [this, beN_snoc]
        exact rfl
      obtain ⟨Z, hZ⟩ : ∃ Z, Z = beN (c.take k) := ⟨_, rfl⟩
      have ZL : Hid (Z * 256 + x < 2 ^ 256) := by
        have := beN_lt (c.take (k + 1)) (fun y hy => LO.out y (List.mem_of_mem_take hy))
        rw [HT.out, ← hZ] at this
        refine (Nat.lt_of_lt_of_le this ?_ : Z * 256 + x < 2 ^ 256)
        rw [pow256]
        exact Nat.pow_le_pow_right (by decide) (by rw [List.length_take]; omega)
      rw [← hZ] at er HT
      have ZM : ((Z * 256 : Nat) : Int) < M := by
        rw [M_c]
        exact Int.ofNat_lt.2 (Nat.lt_of_le_of_lt (Nat.le_add_right _ _) ZL.out)
      have rv : r.val = (Z : Int) := by rw [er]; exact Nm.of_val (by omega) (by omega)
      have rok : r.ok := by rw [er]; exact Nm.of_ok _
      have SP : Hid _ := shift_pos r rok 8 (by decide)
      have e8 : r.val * 2 ^ 8 % M = (Z : Int) * 256 := by
        rw [rv, show (2 : Int) ^ 8 = 256 from rfl]
        exact Int.emod_eq_of_lt (by omega) (by omega)
      rw [e8] at SP
      obtain ⟨t, ht⟩ : ∃ t, t = Nm.of ((Z : Int) * 256) := ⟨_, rfl⟩
      have OO : Hid (⟨t.a + (x : Int), t.b, t.c, t.d⟩ = Nm.of ((Z : Int) * 256 + (x : Int))) := by rw [ht]; exact of_or (Z : Int) x (by omega) x1
      obtain ⟨A, hA⟩ : ∃ A : Nat, t.a = (A : Int) := ⟨t.a.toNat, by rw [ht]; simp only [Nm.of]; omega⟩
      have A1 : A < 18446744073709551616 := by rw [ht] at hA; simp only [Nm.of] at hA; omega
      have A2 : A % 256 = 0 := by rw [ht] at hA; simp only [Nm.of] at hA; omega
      have ol := or_low A x A1 A2 x1
      have OL : Hid (bits .or .u64 (A : Int) (x : Int) = (A : Int) + (x : Int)) := by rw [ol]; exact Int.natCast_add A x
      have OA : Hid (⟨(A : Int) + (x : Int), t.b, t.c, t.d⟩ = Nm.of ((Z : Int) * 256 + (x : Int))) := by rw [← hA]; exact OO.out
      rw [← ht] at SP
      clear c1 hx e8 rv rok ZM er hZ ht A1 A2 ol OO
      go_wp2_with fail
      refine (SP.out _).mono ?_
      rintro e w3 ⟨rfl, hb3⟩
      have HZ : Hid (w3.heap[w.heap.size]? = _) := (hb3.block _ (Array.getElem?_eq_some_iff.1 hz.out).1).trans hz.out
      have HR3 : Hid (w3.heap[w.heap.size + 1]? = _) := (hb3.block _ (Array.getElem?_eq_some_iff.1 HR.out).1).trans HR.out
      obtain ⟨g0, g1, g2, g3⟩ := num_cells HR3.out
      obtain ⟨y0, y1, y2, y3⟩ := num_frozen HR3.out
      have B3 : Hid (Below w.heap.size w w3) := hb.out.trans (hb3.mono hb.out.size)
      clear hb3 hz HR f0 f1 f2 f3 hb SP c2
      go_wp2_with fail
      go_roundw
      case rel =>
        rw [OL.out]
        refine ⟨k + 1, by omega, by go_num, ?_, ?_, ((((B3.out.setCell (by simp) _).setCell (by simp) _).setCell (by simp) _).setCell (by simp) _).setCell (by simp) _⟩
        · have : (((((w3.setCell ⟨w.heap.size + 1, 0, none⟩ (.int .u64 (A : Int))).setCell ⟨w.heap.size + 1, 1, none⟩ (.int .u64 t.b)).setCell ⟨w.heap.size + 1, 2, none⟩ (.int .u64 t.c)).setCell ⟨w.heap.size + 1, 3, none⟩ (.int .u64 t.d)).setCell ⟨w.heap.size + 1, 0, none⟩ (.int .u64 ((A : Int) + (x : Int)))).heap[w.heap.size]? = _ := (set5_other w3 _ _ _ _ _ _ _ (by omega)).trans HZ.out
          exact this
        · have h5 := set5_same w3 (.int .u64 (A : Int)) (.int .u64 t.b) (.int .u64 t.c) (.int .u64 t.d) (.int .u64 ((A : Int) + (x : Int))) HR3.out
          have e : Nm.of ((beN (c.take (k + 1)) : Nat) : Int) = ⟨(A : Int) + (x : Int), t.b, t.c, t.d⟩ := by
            rw [OA.out, HT.out, Int.natCast_add, Int.natCast_mul]
            rfl
          exact (⟨_, e.symm, h5⟩ : AccAt _ _ c (k + 1))
      case measure => simp [intOf]; omega
    · have i1 : ¬ (k : Int) < (c.length : Int) := by omega
      have e : k = c.length := by omega
      subst e
      rw [List.take_length] at er
      have HE : Hid (r = Nm.of ((beN c : Nat) : Int)) := er
      obtain ⟨y0, y1, y2, y3⟩ := num_frozen hz.out
      obtain ⟨j0, j1, j2, j3⟩ := num_cells hz.out
      clear er
      go_wp2_with fail
      refine bodyPost_ret (v := .tuple #[N r, i64 0]) (by simp (maxDischargeDepth := 8) [results, Try.results47, go_sem, j0, j1, j2, j3]) rfl ⟨?_, ?_⟩
      · right
        exact ⟨beN c, ER.out, by rw [HE.out]⟩
      · exact (((hb.out.setCell (Nat.le_refl _) _).setCell (Nat.le_refl _) _).setCell (Nat.le_refl _) _).setCell (Nat.le_refl _) _
set_option maxRecDepth 20000 in
set_option maxHeartbeats 2000000 in
theorem readNumber_nought (bk o cp : Nat) (b : List Nat) (low : ∀ x ∈ b, x < 256) (w : World) (h : ∀ j, j < b.length → w.cell? ⟨bk, o + j, none⟩ = some (b8 (b.getD j 0))) (hl : 2 ≤ b.length) (hcp : b.length ≤ cp) (p1 : b.getD 0 0 = 0) (p2 : 128 ≤ b.getD 1 0) (h32 : b.length ≤ 33) :
    Calls Try.prog 47 #[.slice (some ⟨bk, o, none⟩) b.length cp] w fun e w' => NumIs b e ∧ Below w.heap.size w w' := by
  obtain ⟨c, oo, hc, ho⟩ : ∃ c oo, c = b.tail ∧ oo = o + 1 := ⟨_, _, rfl, rfl⟩
  have hlen : b.length = c.length + 1 := by rw [hc, List.length_tail]; omega
  have hb : beN b = beN c := by
    match b, hl, p1 with
    | t :: d, _, p1 =>
      have t0 : t = 0 := by simpa using p1
      rw [hc, beN_cons, t0]
      simp
  have ER : Hid (readNumS b = .inr (beN c)) := by
    have : readNumS b = .inr (beN c) := by
      unfold readNumS
      rw [if_neg (by omega), if_neg (by omega), if_neg (by rw [if_pos p1]; omega), hb]
    exact this
  have HC : Hid (∀ j, j < c.length → w.cell? ⟨bk, oo + j, none⟩ = some (b8 (c.getD j 0))) := by
    refine (fun j hj => ?_ : ∀ j, j < c.length → w.cell? ⟨bk, oo + j, none⟩ = some (b8 (c.getD j 0)))
    have h1 := h (j + 1) (by omega)
    have e : b.getD (j + 1) 0 = c.getD j 0 := by
      rw [hc]
      match b, hl with
      | t :: d, _ => simp
    rw [e] at h1
    rw [ho, Nat.add_assoc, Nat.add_comm 1 j]
    exact h1
  have LO : Hid (∀ x ∈ c, x < 256) := (fun x hx => low x (by rw [hc] at hx; exact List.mem_of_mem_tail hx) : ∀ x ∈ c, x < 256)
  have c0 := h 0 (by omega)
  have c1 := h 1 (by omega)
  rw [Nat.add_zero, p1] at c0
  rw [← ho] at c1
  obtain ⟨t1, ht1⟩ : ∃ t1, t1 = b.getD 1 0 := ⟨_, rfl⟩
  rw [← ht1] at c1 p2
  have t1l : (128 : Int) ≤ (t1 : Int) := by omega
  have t2 : ¬ (t1 : Int) < 128 := by omega
  have c132 : c.length ≤ 32 := by omega
  have n1 : ¬ (c.length : Int) > 32 := by omega
  have n5 : (c.length : Int) + 1 > 1 := by omega
  have n6 : ¬ cp = 1 := by omega
  have n7 : 1 ≤ cp := by omega
  clear h low ht1 hb p1 hcp hc
  have n8 : o + 1 = oo := ho.symm
  rw [hlen]
  clear hlen hl h32 ho
  go_enter Try.func47, Try.ntmps47
  go_wp2_with fail
  go_loopw [45] (fun ix wr => ∃ (k : Nat), k ≤ c.length ∧ ix = .int .i64 k ∧ Hid (wr.heap[w.heap.size]? = some (.cells #[.int .u64 0, .int .u64 0, .int .u64 0, .int .u64 0] 24 (0, 0))) ∧ Hid (AccAt wr (w.heap.size + 1) c k) ∧ Hid (Below w.heap.size w wr)) (fun ix _ => c.length - (intOf ix).toNat)
  case atStart =>
    refine ⟨0, by omega, rfl, heap_new2 w _ _, ?_, ((Below.refl _ _).alloc (Nat.le_refl _) _).alloc (by simp) _⟩
    have := heap_alloc_new (w.alloc (.cells #[.int .u64 0, .int .u64 0, .int .u64 0, .int .u64 0] 24)) (.cells #[.int .u64 0, .int .u64 0, .int .u64 0, .int .u64 0] 24)
    rw [show (w.alloc (.cells #[.int .u64 0, .int .u64 0, .int .u64 0, .int .u64 0] 24)).heap.size = w.heap.size + 1 by simp] at this
    exact (⟨⟨0, 0, 0, 0⟩, by rw [List.take_zero]; rfl, this⟩ : AccAt _ _ c 0)
  case round =>
    obtain ⟨k, hk, rfl, hz, hr, hb⟩ := hrel
    obtain ⟨r, er, hcell⟩ := hr.out
    have HR : Hid (wr.heap[w.heap.size + 1]? = _) := hcell
    obtain ⟨f0, f1, f2, f3⟩ := num_cells hcell
    clear hcell hr
    by_cases h1 : k < c.length
    · have i1 : (k : Int) < (c.length : Int) := by omega
      obtain ⟨x, hx⟩ : ∃ x, c[k]? = some x := ⟨c[k], by simp [h1]⟩
      have c1 := HC.out k h1
      rw [List.getD_eq_getElem?_getD, hx] at c1
      replace c1 : w.cell? ⟨bk, oo + k, none⟩ = some (b8 x) := c1
      have c2 := (hb.out.cell (p := ⟨bk, _, none⟩) (lt_of_cellB c1)).trans c1
      have x1 := LO.out x (List.mem_of_getElem? hx)
      have x0 : (0 : Int) ≤ (x : Int) := by omega
      have x2 : (x : Int) < 256 := by omega
      have HT : Hid (beN (c.take (k + 1)) = beN (c.take k) * 256 + x) := by
        have : c.take (k + 1) = c.take k ++ [x] := by rw [List.take_add_one, hx]; rfl
        rw [this, beN_snoc]
        exact rfl
      obtain ⟨Z, hZ⟩ : ∃ Z, Z = beN (c.take k) := ⟨_, rfl⟩
      have ZL : Hid (Z * 256 + x < 2 ^ 256) := by
        have := beN_lt (c.take (k + 1)) (fun y hy => LO.out y (List.mem_of_mem_take hy))
        rw [HT.out, ← hZ] at this
        refine (Nat.lt_of_lt_of_le this ?_ : Z * 256 + x < 2 ^ 256)
        rw [pow256]
        exact Nat.pow_le_pow_right (by decide) (by rw [List.length_take]; omega)
      rw [← hZ] at er HT
      have ZM : ((Z * 256 : Nat) : Int) < M := by
        rw [M_c]
        exact Int.ofNat_lt.2 (Nat.lt_of_le_of_lt (Nat.le_add_right _ _) ZL.out)
      have rv : r.val = (Z : Int) := by rw [er]; exact Nm.of_val (by omega) (by omega)
      have rok : r.ok := by rw [er]; exact Nm.of_ok _
      have SP : Hid _ := shift_pos r rok 8 (by decide)
      have e8 : r.val * 2 ^ 8 % M = (Z : Int) * 256 := by
        rw [rv, show (2 : Int) ^ 8 = 256 from rfl]
        exact Int.emod_eq_of_lt (by omega) (by omega)
      rw [e8] at SP
      obtain ⟨t, ht⟩ : ∃ t, t = Nm.of ((Z : Int) * 256) := ⟨_, rfl⟩
      have OO : Hid (⟨t.a + (x : Int), t.b, t.c, t.d⟩ = Nm.of ((Z : Int) * 256 + (x : Int))) := by rw [ht]; exact of_or (Z : Int) x (by omega) x1
      obtain ⟨A, hA⟩ : ∃ A : Nat, t.a = (A : Int) := ⟨t.a.toNat, by rw [ht]; simp only [Nm.of]; omega⟩
      have A1 : A < 18446744073709551616 := by rw [ht] at hA; simp only [Nm.of] at hA; omega
      have A2 : A % 256 = 0 := by rw [ht] at hA; simp only [Nm.of] at hA; omega
      have ol := or_low A x A1 A2 x1
      have OL : Hid (bits .or .u64 (A : Int) (x : Int) = (A : Int) + (x : Int)) := by rw [ol]; exact Int.natCast_add A x
      have OA : Hid (⟨(A : Int) + (x : Int), t.b, t.c, t.d⟩ = Nm.of ((Z : Int) * 256 + (x : Int))) := by rw [← hA]; exact OO.out
      rw [← ht] at SP
      clear c1 hx e8 rv rok ZM er hZ ht A1 A2 ol OO
      go_wp2_with fail
      refine (SP.out _).mono ?_
      rintro e w3 ⟨rfl, hb3⟩
      have HZ : Hid (w3.heap[w.heap.size]? = _) := (hb3.block _ (Array.getElem?_eq_some_iff.1 hz.out).1).trans hz.out
      have HR3 : Hid (w3.heap[w.heap.size + 1]? = _) := (hb3.block _ (Array.getElem?_eq_some_iff.1 HR.out).1).trans HR.out
      obtain ⟨g0, g1, g2, g3⟩ := num_cells HR3.out
      obtain ⟨y0, y1, y2, y3⟩ := num_frozen HR3.out
      have B3 : Hid (Below w.heap.size w w3) := hb.out.trans (hb3.mono hb.out.size)
      clear hb3 hz HR f0 f1 f2 f3 hb SP c2
      go_wp2_with fail
      go_roundw
      case rel =>
        rw [OL.out]
        refine ⟨k + 1, by omega, by go_num, ?_, ?_, ((((B3.out.setCell (by simp) _).setCell (by simp) _).setCell (by simp) _).setCell (by simp) _).setCell (by simp) _⟩
        · have : (((((w3.setCell ⟨w.heap.size + 1, 0, none⟩ (.int .u64 (A : Int))).setCell ⟨w.heap.size + 1, 1, none⟩ (.int .u64 t.b)).setCell ⟨w.heap.size + 1, 2, none⟩ (.int .u64 t.c)).setCell ⟨w.heap.size + 1, 3, none⟩ (.int .u64 t.d)).setCell ⟨w.heap.size + 1, 0, none⟩ (.int .u64 ((A : Int) + (x : Int)))).heap[w.heap.size]? = _ := (set5_other w3 _ _ _ _ _ _ _ (by omega)).trans HZ.out
          exact this
        · have h5 := set5_same w3 (.int .u64 (A : Int)) (.int .u64 t.b) (.int .u64 t.c) (.int .u64 t.d) (.int .u64 ((A : Int) + (x : Int))) HR3.out
          have e : Nm.of ((beN (c.take (k + 1)) : Nat) : Int) = ⟨(A : Int) + (x : Int), t.b, t.c, t.d⟩ := by
            rw [OA.out, HT.out, Int.natCast_add, Int.natCast_mul]
            rfl
          exact (⟨_, e.symm, h5⟩ : AccAt _ _ c (k + 1))
      case measure => simp [intOf]; omega
    · have i1 : ¬ (k : Int) < (c.length : Int) := by omega
      have e : k = c.length := by omega
      subst e
      rw [List.take_length] at er
      have HE : Hid (r = Nm.of ((beN c : Nat) : Int)) := er
      obtain ⟨y0, y1, y2, y3⟩ := num_frozen hz.out
      obtain ⟨j0, j1, j2, j3⟩ := num_cells hz.out
      clear er
      go_wp2_with fail
      refine bodyPost_ret (v := .tuple #[N r, i64 0]) (by simp (maxDischargeDepth := 8) [results, Try.results47, go_sem, j0, j1, j2, j3]) rfl ⟨?_, ?_⟩
      · right
        exact ⟨beN c, ER.out, by rw [HE.out]⟩
      · exact (((hb.out.setCell (Nat.le_refl _) _).setCell (Nat.le_refl _) _).setCell (Nat.le_refl _) _).setCell (Nat.le_refl _) _
set_option maxRecDepth 20000 in
set_option maxHeartbeats 1000000 in
theorem readNumber_zero (bk o cp : Nat) (_ : 1 ≤ cp) (w : World) (c0 : w.cell? ⟨bk, o, none⟩ = some (b8 0)) :
    Calls Try.prog 47 #[.slice (some ⟨bk, o, none⟩) 1 cp] w fun e w' => NumIs [0] e ∧ Below w.heap.size w w' := by
  obtain ⟨A, hA⟩ : ∃ A, A = if cp = 1 then some (⟨bk, o, none⟩ : Addr) else some ⟨bk, o + 1, none⟩ := ⟨_, rfl⟩
  have hA2 := hA.symm
  clear hA
  go_enter Try.func47, Try.ntmps47
  go_wp2_with fail
  refine wp_loop_rounds 1 ?_
  rw [rounds_succ]
  go_wp2_with fail
  refine bodyPost_ret (v := .tuple #[N ⟨0, 0, 0, 0⟩, i64 0]) (by simp (maxDischargeDepth := 8) [results, Try.results47, go_sem]) rfl ⟨?_, ?_⟩
  · right
    exact ⟨0, by simp [readNumS, beN], rfl⟩
  · exact ((Below.refl _ _).alloc (Nat.le_refl _) _).alloc (by simp) _
set_option maxRecDepth 20000 in
set_option maxHeartbeats 1000000 in
theorem readNumber_high (bk o cp : Nat) (b : List Nat) (hl : 1 ≤ b.length) (p1 : 128 ≤ b.getD 0 0) (w : World) (c0 : w.cell? ⟨bk, o, none⟩ = some (b8 (b.getD 0 0))) :
    Calls Try.prog 47 #[.slice (some ⟨bk, o, none⟩) b.length cp] w fun e w' => NumIs b e ∧ Below w.heap.size w w' := by
  have E2 : Hid (readNumS b = .inl 4) := by
    have : readNumS b = .inl 4 := by
      unfold readNumS
      rw [if_neg (by omega), if_pos (.inl p1)]
    exact this
  have n0 : ¬ (b.length : Int) = 0 := by omega
  have n2 : (0 : Int) < (b.length : Int) := by omega
  generalize b.getD 0 0 = t at *
  have t1 : (t : Int) ≥ 128 := by omega
  clear p1
  go_enter Try.func47, Try.ntmps47
  go_wp2_with fail
  refine bodyPost_ret (v := .tuple #[N ⟨0, 0, 0, 0⟩, i64 4]) (by simp (maxDischargeDepth := 8) [results, Try.results47, go_sem]) rfl ⟨.inl ⟨4, E2.out, rfl⟩, ?_⟩
  exact (Below.refl _ _).alloc (Nat.le_refl _) _
set_option maxRecDepth 20000 in
set_option maxHeartbeats 1000000 in
theorem readNumber_form (bk o cp : Nat) (b : List Nat) (hl : 2 ≤ b.length) (p1 : b.getD 0 0 = 0) (p2 : b.getD 1 0 < 128) (w : World) (c0 : w.cell? ⟨bk, o, none⟩ = some (b8 (b.getD 0 0))) (c1 : w.cell? ⟨bk, o + 1, none⟩ = some (b8 (b.getD 1 0))) :
    Calls Try.prog 47 #[.slice (some ⟨bk, o, none⟩) b.length cp] w fun e w' => NumIs b e ∧ Below w.heap.size w w' := by
  have E2 : Hid (readNumS b = .inl 4) := by
    have : readNumS b = .inl 4 := by
      unfold readNumS
      rw [if_neg (by omega), if_pos (.inr ⟨p1, by omega, p2⟩)]
    exact this
  have n0 : ¬ (b.length : Int) = 0 := by omega
  have n2 : (0 : Int) < (b.length : Int) := by omega
  have n3 : (1 : Int) < (b.length : Int) := by omega
  rw [p1] at c0
  generalize b.getD 1 0 = t at *
  have t1 : (t : Int) < 128 := by omega
  clear p1 p2
  go_enter Try.func47, Try.ntmps47
  go_wp2_with fail
  refine bodyPost_ret (v := .tuple #[N ⟨0, 0, 0, 0⟩, i64 4]) (by simp (maxDischargeDepth := 8) [results, Try.results47, go_sem]) rfl ⟨.inl ⟨4, E2.out, rfl⟩, ?_⟩
  exact (Below.refl _ _).alloc (Nat.le_refl _) _
set_option maxRecDepth 20000 in
set_option maxHeartbeats 1000000 in
theorem readNumber_long (bk o cp : Nat) (b : List Nat) (hl : 33 ≤ b.length) (p1 : b.getD 0 0 < 128) (p2 : b.getD 0 0 ≠ 0) (w : World) (c0 : w.cell? ⟨bk, o, none⟩ = some (b8 (b.getD 0 0))) :
    Calls Try.prog 47 #[.slice (some ⟨bk, o, none⟩) b.length cp] w fun e w' => NumIs b e ∧ Below w.heap.size w w' := by
  have E2 : Hid (readNumS b = .inl 2) := by
    have : readNumS b = .inl 2 := by
      unfold readNumS
      rw [if_neg (by omega), if_neg (by omega), if_pos (by rw [if_neg p2]; omega)]
    exact this
  have n0 : ¬ (b.length : Int) = 0 := by omega
  have n2 : (0 : Int) < (b.length : Int) := by omega
  have n3 : (b.length : Int) > 32 := by omega
  generalize b.getD 0 0 = t at *
  have t1 : ¬ (t : Int) ≥ 128 := by omega
  have t2 : ¬ (t : Int) = 0 := by omega
  have t3 : ((t : Int) == 0) = false := beq_eq_false_iff_ne.2 t2
  clear p1 p2 t2
  go_enter Try.func47, Try.ntmps47
  go_wp2_with fail
  refine bodyPost_ret (v := .tuple #[N ⟨0, 0, 0, 0⟩, i64 2]) (by simp (maxDischargeDepth := 8) [results, Try.results47, go_sem]) rfl ⟨.inl ⟨2, E2.out, rfl⟩, ?_⟩
  exact (Below.refl _ _).alloc (Nat.le_refl _) _
set_option maxRecDepth 20000 in
set_option maxHeartbeats 1000000 in
theorem readNumber_longer (bk o cp : Nat) (b : List Nat) (hl : 34 ≤ b.length) (hcp : b.length ≤ cp) (p1 : b.getD 0 0 = 0) (p2 : 128 ≤ b.getD 1 0) (w : World) (c0 : w.cell? ⟨bk, o, none⟩ = some (b8 (b.getD 0 0))) (c1 : w.cell? ⟨bk, o + 1, none⟩ = some (b8 (b.getD 1 0))) :
    Calls Try.prog 47 #[.slice (some ⟨bk, o, none⟩) b.length cp] w fun e w' => NumIs b e ∧ Below w.heap.size w w' := by
  have E2 : Hid (readNumS b = .inl 2) := by
    have : readNumS b = .inl 2 := by
      unfold readNumS
      rw [if_neg (by omega), if_neg (by omega), if_pos (by rw [if_pos p1]; omega)]
    exact this
  obtain ⟨n, hn⟩ : ∃ n, b.length = n + 1 := ⟨b.length - 1, by omega⟩
  have n3 : (n : Int) > 32 := by omega
  have n4 : (n : Int) + 1 > 1 := by omega
  have n6 : ¬ cp = 1 := by omega
  have n7 : 1 ≤ cp := by omega
  rw [p1] at c0
  generalize b.getD 1 0 = t at *
  have t1 : ¬ (t : Int) < 128 := by omega
  rw [hn]
  clear p1 p2 hn hl hcp
  go_enter Try.func47, Try.ntmps47
  go_wp2_with fail
  refine bodyPost_ret (v := .tuple #[N ⟨0, 0, 0, 0⟩, i64 2]) (by simp (maxDischargeDepth := 8) [results, Try.results47, go_sem]) rfl ⟨.inl ⟨2, E2.out, rfl⟩, ?_⟩
  exact (Below.refl _ _).alloc (Nat.le_refl _) _
set_option maxHeartbeats 1000000 in
theorem readNumber_none (a : Option Addr) (cp : Nat) (w : World) :
    Calls Try.prog 47 #[.slice a 0 cp] w fun e w' => NumIs [] e ∧ Below w.heap.size w w' := by
  have E2 : Hid (readNumS [] = .inl 3) := (by simp [readNumS] : readNumS [] = .inl 3)
  go_enter Try.func47, Try.ntmps47
  go_wp2_with fail
  refine bodyPost_ret (v := .tuple #[N ⟨0, 0, 0, 0⟩, i64 3]) (by simp (maxDischargeDepth := 8) [results, Try.results47, go_sem]) rfl ⟨.inl ⟨3, E2.out, rfl⟩, ?_⟩
  exact (Below.refl _ _).alloc (Nat.le_refl _) _
/-- der.ReadNumber: the number; or what is wrong. -/
theorem readNumber_fun (v : Value) (b : List Nat) (low : ∀ x ∈ b, x < 256) (w : World) (h : By w v b) :
    Calls Try.prog 47 #[v] w fun e w' => NumIs b e ∧ Below w.heap.size w w' := by
  obtain ⟨a, c, rfl, hc, _, h3⟩ := h
  by_cases h0 : b.length = 0
  · have e : b = [] := List.length_eq_zero_iff.1 h0
    subst e
    exact readNumber_none a c w
  · obtain ⟨bk, o, rfl, hcell⟩ := h3 (by omega)
    have c0 := hcell 0 (by omega)
    rw [Nat.add_zero] at c0
    by_cases p1 : 128 ≤ b.getD 0 0
    · exact readNumber_high bk o c b (by omega) p1 w c0
    · by_cases p2 : b.getD 0 0 = 0
      · by_cases p3 : 2 ≤ b.length
        · have c1 := hcell 1 (by omega)
          by_cases p4 : b.getD 1 0 < 128
          · exact readNumber_form bk o c b p3 p2 p4 w c0 c1
          · by_cases p5 : b.length ≤ 33
            · exact readNumber_nought bk o c b low w hcell p3 hc p2 (by omega) p5
            · exact readNumber_longer bk o c b (by omega) hc p2 (by omega) w c0 c1
        · match b, h0, p2, p3, hc, c0 with
          | [x], _, p2, _, hc, c0 =>
            obtain rfl : x = 0 := by simpa using p2
            exact readNumber_zero bk o c (by simpa using hc) w c0
          | [], h0, _, _, _, _ => simp at h0
          | x :: y :: r, _, _, p3, _, _ => simp at p3
      · by_cases p5 : b.length ≤ 32
        · exact readNumber_plain bk o c b low w hcell (by omega) (by omega) p2 p5
        · exact readNumber_long bk o c b (by omega) (by omega) p2 w c0
end Go.Proofs.Ytkgfeacednomfaa
