/- The contract of der.First. -/
import Derived.Test.YtohliojdmmbcdabQDerF
namespace Go.Proofs.Ytohliojdmmbcdab
open Go.RowKit
set_option linter.unusedSimpArgs false
/-- Bytes that lie in a block of bytes. -/
def Bk (w : World) (u : Value) (xs : List Nat) : Prop := By w u xs ∧ ∀ g, u.ownBlock = some g → ∃ cur m, w.heap[g]? = some (.cells cur 5 m)
theorem Ob.bk {w : World} {B : Nat} {v : Value} {xs : List Nat} (h : Ob w B v xs) : Bk w v xs := ⟨h.by, fun _ hg => let ⟨cur, e⟩ := h.obj hg; ⟨cur, _, e⟩⟩
theorem Bk.up {W w1 : World} {v : Value} {xs : List Nat} (h : Bk W v xs) (hb : Below W.heap.size W w1) : Bk w1 v xs :=
  ⟨h.1.up hb (Nat.le_refl _), fun g hg => let ⟨cur, m, e⟩ := h.2 g hg; ⟨cur, m, (hb.block g (Array.getElem?_eq_some_iff.1 e).1).trans e⟩⟩
/-- What First answers. -/
def FirstIs (b : List Nat) (e : Ending) (w' : World) : Prop :=
  (∃ n, firstS b = .inl n ∧ e = .returned (.tuple #[.agg #[.int .u8 0, .slice none 0 0], i64 0, i64 n])) ∨
  (∃ x n u, firstS b = .inr (x, n) ∧ e = .returned (.tuple #[.agg #[b8 x.tag, u], i64 n, i64 0]) ∧ Bk w' u x.body)
theorem By.tail {w : World} {bk o c : Nat} {b : List Nat} (h : ∀ j, j < b.length → w.cell? ⟨bk, o + j, none⟩ = some (b8 (b.getD j 0))) (hl : 1 ≤ b.length) (hc : b.length ≤ c) (A : Option Addr) (hA : A = if c = 1 then some ⟨bk, o, none⟩ else some ⟨bk, o + 1, none⟩) : By w (.slice A (b.length - 1) (c - 1)) b.tail := by
  have e : b.tail.length = b.length - 1 := by simp
  refine ⟨A, c - 1, by rw [e], by omega, ?_, fun hp => ?_⟩
  · intro h0
    rw [h0] at hA
    split at hA <;> cases hA
  · rw [if_neg (by omega)] at hA
    refine ⟨bk, o + 1, hA, fun j hj => ?_⟩
    have := h (j + 1) (by omega)
    rw [Nat.add_assoc, Nat.add_comm 1 j, this]
    congr 2
    match b, hl with
    | t :: r, _ => simp
theorem By.mid {w : World} {bk o c s n : Nat} {b : List Nat} (h : ∀ j, j < b.length → w.cell? ⟨bk, o + j, none⟩ = some (b8 (b.getD j 0))) (hl : s + n ≤ b.length) (hc : b.length ≤ c) (A : Option Addr) (hA : A = if c = s then some ⟨bk, o, none⟩ else some ⟨bk, o + s, none⟩) : By w (.slice A n (c - s)) ((b.drop s).take n) := by
  have e : ((b.drop s).take n).length = n := by simp; omega
  refine ⟨A, c - s, by rw [e], by omega, ?_, fun hp => ?_⟩
  · intro h0
    rw [h0] at hA
    split at hA <;> cases hA
  · rw [if_neg (by omega)] at hA
    refine ⟨bk, o + s, hA, fun j hj => ?_⟩
    have := h (s + j) (by omega)
    rw [Nat.add_assoc, this]
    congr 2
    simp [List.getD_eq_getElem?_getD, List.getElem?_take, show j < n by omega]
theorem item_frozen {w : World} {k t : Nat} {cs : Array Value} (h : w.heap[k]? = some (.cells cs t (0, 0))) : w.frozen? ⟨k, 0, none⟩ = false ∧ w.frozen? ⟨k, 1, none⟩ = false := by simp [World.frozen?, h]
theorem Ob.set {w : World} {B k j : Nat} {v y : Value} {xs : List Nat} (h : Ob w B v xs) (hne : some k ≠ v.ownBlock) : Ob (w.setCell ⟨k, j, none⟩ y) B v xs := by
  refine ⟨h.1, ?_⟩
  rcases h.2 with h' | ⟨g, cap, cur, e, hB, hg, rest⟩
  · exact .inl h'
  · refine .inr ⟨g, cap, cur, e, hB, ?_, rest⟩
    rw [Below.heap_setCell _ _ _ _ (fun e2 => hne (by rw [e]; exact congrArg some e2.symm))]
    exact hg
set_option maxRecDepth 20000 in
set_option maxHeartbeats 2000000 in
theorem first_some (bk o c : Nat) (b : List Nat) (low : ∀ x ∈ b, x < 256) (hl : 1 ≤ b.length) (hc : b.length ≤ c) (w : World) (h : ∀ j, j < b.length → w.cell? ⟨bk, o + j, none⟩ = some (b8 (b.getD j 0))) :
    Calls Try.prog 13 #[.slice (some ⟨bk, o, none⟩) b.length c] w fun e w' => FirstIs b e w' ∧ Below w.heap.size w w' := by
  obtain ⟨A, hA⟩ : ∃ A, A = if c = 1 then some (⟨bk, o, none⟩ : Addr) else some ⟨bk, o + 1, none⟩ := ⟨_, rfl⟩
  have T : Hid (By w (.slice A (b.length - 1) (c - 1)) b.tail) := By.tail h hl hc A hA
  have HF : Hid _ := lenS_first hl
  have lowt : ∀ x ∈ b.tail, x < 256 := fun x hx => low x (List.mem_of_mem_tail hx)
  have LB : Hid _ := lenS_bound lowt
  have LT : Hid (∀ x ∈ b.tail, x < 256) := lowt
  have n0 : ¬ (b.length : Int) = 0 := by omega
  have n1 : (1 : Int) ≤ (b.length : Int) := by omega
  have n2 : 1 ≤ c := by omega
  have hA2 := hA.symm
  have HC : Hid _ := h
  clear h hA low lowt
  go_enter Try.func13, Try.ntmps13
  go_wp2_with fail
  refine (readLength_fun _ b.tail LT.out _ (T.out.up ((Below.refl _ _).alloc (Nat.le_refl _) _) (Nat.le_refl _))).mono ?_
  rintro e w1 ⟨rfl, hw1⟩
  have hw2 := hw1.symm
  subst hw2
  obtain ⟨r1, r2, r3, hr⟩ : ∃ r1 r2 r3, lenS b.tail = (r1, r2, r3) := ⟨_, _, _, rfl⟩
  rw [hr] at HF LB ⊢
  obtain ⟨b1, b2, b3, b4⟩ := LB.out
  simp only at b1 b2 b3 b4
  clear hr hw1 T LT LB hA2
  cases r3 with
  | succ r3 =>
    have z : ¬ ((r3 + 1 : Nat) : Int) = 0 := by omega
    have E1 : Hid (firstS b = .inl (r3 + 1)) := HF.out
    generalize r3 + 1 = r at *
    go_wp2_with fail
    refine bodyPost_ret (v := .tuple #[.agg #[.int .u8 0, .slice none 0 0], i64 0, i64 r]) (by simp (maxDischargeDepth := 8) [results, Try.results13, go_sem]) rfl ⟨?_, ?_⟩
    · exact .inl ⟨r, E1.out, rfl⟩
    · exact (Below.refl _ _).alloc (Nat.le_refl _) _
  | zero =>
    have E1 : Hid (firstS b = finS b r1 (1 + r2)) := HF.out
    clear HF
    have b5 : r2 + 1 ≤ b.length := by
      have := b4 rfl
      simp at this
      omega
    obtain ⟨s, hs⟩ : ∃ s, s = 1 + r2 := ⟨_, rfl⟩
    obtain ⟨t, ht⟩ : ∃ t, t = s + r1 := ⟨_, rfl⟩
    rw [← hs] at E1
    have s1 : (1 : Int) + (r2 : Int) = (s : Int) := by omega
    have t1 : (s : Int) + (r1 : Int) = (t : Int) := by omega
    have s2 : s ≤ 4 := by omega
    have s3 : s ≤ b.length := by omega
    have s4 : s ≤ t := by omega
    have tb : t ≤ 65539 := by omega
    have HT : Hid (t = s + r1) := ht
    clear hs ht b4 b5 b3
    by_cases p1 : 4096 < r1
    · have E2 : Hid (firstS b = .inl 2) := by
        have := E1.out
        unfold finS at this
        rw [if_pos p1] at this
        exact this
      have q1 : (r1 : Int) > 4096 := by omega
      clear E1
      go_wp2_with fail
      refine bodyPost_ret (v := .tuple #[.agg #[.int .u8 0, .slice none 0 0], i64 0, i64 2]) (by simp (maxDischargeDepth := 8) [results, Try.results13, go_sem]) rfl ⟨?_, ?_⟩
      · exact .inl ⟨2, E2.out, rfl⟩
      · exact (Below.refl _ _).alloc (Nat.le_refl _) _
    · have q1 : ¬ (r1 : Int) > 4096 := by omega
      by_cases p2 : b.length < t
      · have E2 : Hid (firstS b = .inl 3) := by
          have := E1.out
          unfold finS at this
          rw [if_neg p1, ← HT.out, if_pos p2] at this
          exact this
        have q2 : (t : Int) > (b.length : Int) := by omega
        clear E1
        go_wp2_with fail
        refine bodyPost_ret (v := .tuple #[.agg #[.int .u8 0, .slice none 0 0], i64 0, i64 3]) (by simp (maxDischargeDepth := 8) [results, Try.results13, go_sem]) rfl ⟨?_, ?_⟩
        · exact .inl ⟨3, E2.out, rfl⟩
        · exact (Below.refl _ _).alloc (Nat.le_refl _) _
      · have E2 : Hid (firstS b = .inr (⟨b.getD 0 0, (b.drop s).take r1⟩, t)) := by
          have := E1.out
          unfold finS at this
          rw [if_neg p1, ← HT.out, if_neg p2] at this
          exact this
        have q2 : ¬ (t : Int) > (b.length : Int) := by omega
        have q3 : t ≤ c := by omega
        have q4 : t - s = r1 := by have := HT.out; omega
        obtain ⟨A2, hA2⟩ : ∃ A, A = if c = s then some (⟨bk, o, none⟩ : Addr) else some ⟨bk, o + s, none⟩ := ⟨_, rfl⟩
        have T2 : Hid (By w (.slice A2 r1 (c - s)) ((b.drop s).take r1)) := By.mid HC.out (by have := HT.out; omega) hc A2 hA2
        have hA3 := hA2.symm
        have c0 := HC.out 0 (by omega)
        rw [Nat.add_zero] at c0
        have TB : Hid (((b.drop s).take r1).length = r1) := (by simp; have := HT.out; omega : ((b.drop s).take r1).length = r1)
        clear E1 hA2 p1
        go_wp2_with (at_builtin; refine wp_appB rfl _ _ rfl w.heap.size _ _ [] ((b.drop s).take r1) _ rfl (Ob.nil _ _) (Below.refl _ _) rfl (T2.out.up ((Below.refl _ _).alloc (Nat.le_refl _) _) (Nat.le_refl _)) (by rw [TB.out]; simp; omega) (by simp) ?_)
        intro v1 w1 o1 g1 b1
        have XB : Hid (w1.heap[w.heap.size]? = _) := (g1.block w.heap.size (by simp) (by simp [Value.ownBlock])).trans (heap_alloc_new w _)
        obtain ⟨f0, f1⟩ := item_cells XB.out
        obtain ⟨z0, z1⟩ := item_frozen XB.out
        have O1 : Hid (Ob w1 w.heap.size v1 ((b.drop s).take r1)) := o1
        have B1 : Hid (Below w.heap.size w w1) := ((Below.refl _ _).alloc (Nat.le_refl _) _).trans b1
        have c1 := (B1.out.cell (p := ⟨bk, o, none⟩) (lt_of_cellB c0)).trans c0
        have NE : Hid _ := O1.out.ne_item XB.out
        obtain ⟨av, cv, ev⟩ := O1.out.by.len
        rw [TB.out] at ev
        subst ev
        obtain ⟨tg, htg⟩ : ∃ tg, tg = b.getD 0 0 := ⟨_, rfl⟩
        rw [← htg] at c1 E2
        clear o1 g1 b1 c0 htg
        go_wp2_with fail
        refine bodyPost_ret (v := .tuple #[.agg #[b8 tg, .slice av r1 cv], i64 t, i64 0]) (by simp (maxDischargeDepth := 8) [results, Try.results13, go_sem, f0, f1]) rfl ⟨?_, ?_⟩
        · exact .inr ⟨_, t, _, E2.out, rfl, ((O1.out.set NE.out).set NE.out).bk⟩
        · exact (B1.out.setCell (Nat.le_refl _) _).setCell (Nat.le_refl _) _
set_option maxHeartbeats 1000000 in
theorem first_none (a : Option Addr) (c : Nat) (w : World) :
    Calls Try.prog 13 #[.slice a 0 c] w fun e w' => FirstIs [] e w' ∧ Below w.heap.size w w' := by
  go_enter Try.func13, Try.ntmps13
  go_wp2_with fail
  refine bodyPost_ret (v := .tuple #[.agg #[.int .u8 0, .slice none 0 0], i64 0, i64 3]) (by simp (maxDischargeDepth := 8) [results, Try.results13, go_sem]) rfl ⟨?_, ?_⟩
  · exact .inl ⟨3, by simp [firstS], rfl⟩
  · exact (Below.refl _ _).alloc (Nat.le_refl _) _
theorem first_fun (v : Value) (b : List Nat) (low : ∀ x ∈ b, x < 256) (w : World) (h : By w v b) :
    Calls Try.prog 13 #[v] w fun e w' => FirstIs b e w' ∧ Below w.heap.size w w' := by
  obtain ⟨a, c, rfl, hc, _, h3⟩ := h
  cases b with
  | nil => exact first_none a c w
  | cons x b =>
    obtain ⟨bk, o, rfl, hcell⟩ := h3 (by simp)
    exact first_some bk o c (x :: b) low (by simp) hc w hcell
end Go.Proofs.Ytohliojdmmbcdab
