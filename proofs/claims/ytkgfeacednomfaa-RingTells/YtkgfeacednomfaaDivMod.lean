/- The contracts of quot.DivMod and quot.Mod: how often, and what is left. -/
import Derived.Test.YtkgfeacednomfaaQuotW
import Derived.Test.YtkgfeacednomfaaCmp
import Derived.RowKit3
import Derived.Laws.Bits64
import Derived.Laws.Bits64b
namespace Go.Proofs.Ytkgfeacednomfaa
open Go.RowKit
attribute [local go_sem] World.cell?_alloc_some frozen?_alloc_cells

/-- Eight words F lie in block k, which may be written. -/
structure Eight (w : World) (k : Nat) (F : Nat → Int) : Prop where
  cell : ∀ j, j < 8 → w.cell? ⟨k, j, none⟩ = some (.int .u64 (F j))
  fz : ∀ j, w.frozen? ⟨k, j, none⟩ = false
theorem Eight.up {W w1 : World} {k : Nat} {F : Nat → Int} (q : Eight W k F) (hb : Below W.heap.size W w1) : Eight w1 k F := by
  have hk := lt_of_cell (q.cell 0 (by decide))
  exact ⟨fun j hj => (hb.cell (p := ⟨k, j, none⟩) hk).trans (q.cell j hj), fun j => (hb.frozen (p := ⟨k, j, none⟩) hk).trans (q.fz j)⟩
theorem Eight.set_ne {w : World} {k b j : Nat} {v : Value} {F : Nat → Int} (q : Eight w b F) (hk : k ≠ b) : Eight (w.setCell ⟨k, j, none⟩ v) b F :=
  ⟨fun i hi => (cell_set_ne hk).trans (q.cell i hi), fun i => frozen_set.trans (q.fz i)⟩
theorem Eight.set {w : World} {k j : Nat} {v : Int} {F G : Nat → Int} (q : Eight w k F) (hj : j < 8) (e : ∀ i, i < 8 → G i = if i = j then v else F i) : Eight (w.setCell ⟨k, j, none⟩ (.int .u64 v)) k G := by
  refine ⟨fun i hi => ?_, fun i => frozen_set.trans (q.fz i)⟩
  rw [e i hi]
  split
  · rename_i h; subst h
    exact cell_same (q.cell i hi) _
  · rename_i h
    exact cell_set_at (q.cell i hi) (fun h' => h h'.symm)
theorem Eight.lies8 {w : World} {k : Nat} {F : Nat → Int} {l h : Nm} (q : Eight w k F) (e : ∀ j, j < 8 → F j = getV l h j) : Lies8 w k l h := by
  have c : ∀ j, j < 8 → w.cell? ⟨k, j, none⟩ = some (.int .u64 (getV l h j)) := fun j hj => by rw [q.cell j hj, e j hj]
  exact ⟨c 0 (by decide), c 1 (by decide), c 2 (by decide), c 3 (by decide), c 4 (by decide), c 5 (by decide), c 6 (by decide), c 7 (by decide)⟩
/-- What lies where while DivMod goes round. -/
structure DivSt (w : World) (s b : Nat) (l h m x : Nm) (F : Nat → Int) : Prop where
  a : Lies8 w s l h
  m : Lies w (s + 1) m
  p : Cells8 w (s + 1 + 1) (.int .u64 0) (.int .u64 0) (.int .u64 0) (.int .u64 0) (.int .u64 0) (.int .u64 0) (.int .u64 0) (.int .u64 0)
  r : Cells4 w (s + 1 + 1 + 1) (.int .u64 0) (.int .u64 0) (.int .u64 0) (.int .u64 0)
  o : Eight w (s + 1 + 1 + 1 + 1) F
  x : Cells4 w b (.int .u64 x.a) (.int .u64 x.b) (.int .u64 x.c) (.int .u64 x.d)
  far : s + 1 + 1 + 1 + 1 < b
theorem DivSt.up {W w1 : World} {s b : Nat} {l h m x : Nm} {F : Nat → Int} (q : DivSt W s b l h m x F) (hb : Below W.heap.size W w1) : DivSt w1 s b l h m x F :=
  ⟨q.a.up hb, q.m.up hb, q.p.up hb, q.r.up hb, q.o.up hb, q.x.up hb, q.far⟩
theorem DivSt.left {w : World} {s b : Nat} {l h m x : Nm} {F : Nat → Int} (q : DivSt w s b l h m x F) (y : Nm) : DivSt (st4 w b y) s b l h m y F := by
  have f := q.far
  exact ⟨q.a.st4_ne (by omega), q.m.st4_ne (by omega), q.p.st4_ne (by omega), q.r.st4_ne (by omega), (((q.o.set_ne (by omega)).set_ne (by omega)).set_ne (by omega)).set_ne (by omega), q.x.st4_self, f⟩
theorem Cells4.set0 {w : World} {k : Nat} {a b c d v : Value} (q : Cells4 w k a b c d) : Cells4 (w.setCell ⟨k, 0, none⟩ v) k v b c d :=
  ⟨cell_same q.a _, cell_set_at q.b (by decide), cell_set_at q.c (by decide), cell_set_at q.d (by decide), fun j => frozen_set.trans (q.fz j)⟩
theorem DivSt.left0 {w : World} {s b : Nat} {l h m x : Nm} {F : Nat → Int} (q : DivSt w s b l h m x F) (v : Int) : DivSt (w.setCell ⟨b, 0, none⟩ (.int .u64 v)) s b l h m ⟨v, x.b, x.c, x.d⟩ F := by
  have f := q.far
  exact ⟨q.a.set_ne (by omega), q.m.set_ne (by omega), q.p.set_ne (by omega), q.r.set_ne (by omega), q.o.set_ne (by omega), q.x.set0, f⟩
theorem DivSt.often {w : World} {s b j : Nat} {l h m x : Nm} {F G : Nat → Int} {v : Int} (q : DivSt w s b l h m x F) (hj : j < 8) (e : ∀ i, i < 8 → G i = if i = j then v else F i) : DivSt (w.setCell ⟨s + 1 + 1 + 1 + 1, j, none⟩ (.int .u64 v)) s b l h m x G := by
  have f := q.far
  exact ⟨q.a.set_ne (by omega), q.m.set_ne (by omega), q.p.set_ne (by omega), q.r.set_ne (by omega), q.o.set hj e, q.x.set_ne (by omega), f⟩
/-- What one round does to what is left, in words. -/
structure Round (A : Nat) (m : Nm) (k : Nat) (S T : Nm) (C : Int) : Prop where
  s : addS (LK A m.val.toNat (k + 1)) (LK A m.val.toNat (k + 1)) = S
  c : addC (LK A m.val.toNat (k + 1)) (LK A m.val.toNat (k + 1)) = C
  t : T = ⟨bits .or .u64 S.a ((A / 2 ^ k % 2 : Nat) : Int), S.b, S.c, S.d⟩
  ok : T.ok
  up : m.val.toNat ≤ 2 * (A / 2 ^ (k + 1) % m.val.toNat) + A / 2 ^ k % 2 → (C = 1 ∨ cmpV T m ≥ 0) ∧ subS T m = LK A m.val.toNat k
  no : ¬ m.val.toNat ≤ 2 * (A / 2 ^ (k + 1) % m.val.toNat) + A / 2 ^ k % 2 → C ≠ 1 ∧ ¬ cmpV T m ≥ 0 ∧ T = LK A m.val.toNat k
theorem round_of {A : Nat} {m : Nm} (om : m.ok) (hm : 0 < m.val) (k : Nat) : ∃ S T C, Round A m k S T C := by
  have m1 := Nm.val_lt om
  obtain ⟨n, hn⟩ := Int.eq_ofNat_of_zero_le (Nm.val_nonneg om)
  have en : m.val.toNat = n := by rw [hn]; rfl
  have n0 : 0 < n := by omega
  have nM : (n : Int) < M := by omega
  obtain ⟨hr, hl, _⟩ := div_step (A := A) (k := k) n0
  have xv := LK_val (A := A) (k := k + 1) n0 nM
  have yv := LK_val (A := A) (k := k) n0 nM
  have hb : A / 2 ^ k % 2 < 2 := Nat.mod_lt _ (by decide)
  have oS : (addS (LK A n (k + 1)) (LK A n (k + 1))).ok := Nm.of_ok _
  have Sv : (addS (LK A n (k + 1)) (LK A n (k + 1))).val = (2 * (A / 2 ^ (k + 1) % n : Nat) : Int) % M := by
    have e : (LK A n (k + 1)).val + (LK A n (k + 1)).val = (2 * (A / 2 ^ (k + 1) % n : Nat) : Int) := by rw [xv]; omega
    unfold addS
    rw [e]
    exact Nm.of_val (Int.emod_nonneg _ (by decide)) (Int.emod_lt_of_pos _ M_pos)
  have Cv : addC (LK A n (k + 1)) (LK A n (k + 1)) = (2 * (A / 2 ^ (k + 1) % n : Nat) : Int) / M := by
    have e : (LK A n (k + 1)).val + (LK A n (k + 1)).val = (2 * (A / 2 ^ (k + 1) % n : Nat) : Int) := by rw [xv]; omega
    unfold addC
    rw [e]
  rw [← en] at *
  generalize hSS : addS (LK A m.val.toNat (k + 1)) (LK A m.val.toNat (k + 1)) = S at *
  generalize hCC : addC (LK A m.val.toNat (k + 1)) (LK A m.val.toNat (k + 1)) = C at *
  have or1 : bits .or .u64 S.a ((A / 2 ^ k % 2 : Nat) : Int) = S.a + ((A / 2 ^ k % 2 : Nat) : Int) := by
    obtain ⟨sa, hsa⟩ := Int.eq_ofNat_of_zero_le oS.a.1
    have sl : sa < 18446744073709551616 := by have := oS.a.2; omega
    rw [hsa, bits_or_u64_nat sa _ sl (by omega)]
    have ev : sa % 2 = 0 := by
      have e2 : S.val % 2 = 0 := by rw [Sv]; unfold M; omega
      unfold Nm.val at e2
      rw [hsa] at e2
      omega
    obtain ⟨c, rfl⟩ : ∃ c, sa = 2 * c := ⟨sa / 2, by omega⟩
    have := Nat.shiftLeft_add_eq_or_of_lt (b := A / 2 ^ k % 2) (i := 1) hb c
    rw [Nat.shiftLeft_eq, Nat.mul_comm] at this
    rw [← this]
    simp
  generalize hbb : A / 2 ^ k % 2 = b at *
  generalize hrr : A / 2 ^ (k + 1) % m.val.toNat = r at *
  have oT : (⟨S.a + (b : Int), S.b, S.c, S.d⟩ : Nm).ok := by
    refine ⟨⟨?_, ?_⟩, oS.b, oS.c, oS.d⟩
    · have := oS.a.1; simp only; omega
    · have e2 : S.val % 2 = 0 := by rw [Sv]; unfold M; omega
      have := oS.a.2
      unfold Nm.val at e2
      simp only
      omega
  have Tv : (⟨S.a + (b : Int), S.b, S.c, S.d⟩ : Nm).val = S.val + b := by simp only [Nm.val]; omega
  refine ⟨S, ⟨S.a + (b : Int), S.b, S.c, S.d⟩, C, hSS, hCC, by rw [hbb, or1], oT, ?_, ?_⟩
  · intro hge
    rw [hbb, hrr] at hge
    rw [if_pos hge] at hl
    refine ⟨?_, ?_⟩
    · by_cases h1 : C = 1
      · exact .inl h1
      · right
        have : ¬ (⟨S.a + (b : Int), S.b, S.c, S.d⟩ : Nm).val < m.val := by
          rw [Tv, Sv]; rw [Cv] at h1; unfold M at *; omega
        unfold cmpV
        rw [if_neg this]
        split <;> omega
    · unfold subS LK
      rw [hl, Tv, Sv]
      congr 1
      unfold M at *
      omega
  · intro hlt
    rw [hbb, hrr] at hlt
    rw [if_neg hlt] at hl
    have h0 : (2 * (r : Nat) : Int) / M = 0 := by unfold M at *; omega
    refine ⟨by rw [Cv, h0]; decide, ?_, ?_⟩
    · have : (⟨S.a + (b : Int), S.b, S.c, S.d⟩ : Nm).val < m.val := by
        rw [Tv, Sv]; unfold M at *; omega
      unfold cmpV
      rw [if_pos this]
      decide
    · refine Nm.ext_val oT (LK_ok _ _ _) ?_
      rw [Tv, Sv, yv, hl]
      unfold M at *
      omega
theorem or_pow {u s : Nat} (hu : u < 18446744073709551616) (hs : s < 64) : bits .or .u64 ((u : Nat) : Int) (IntKind.u64.wrap (2 ^ s)) = ((u ||| 2 ^ s : Nat) : Int) := by
  have p : (2 : Nat) ^ s < 2 ^ 64 := Nat.pow_lt_pow_right (by decide) hs
  have p : (2 : Nat) ^ s < 18446744073709551616 := p
  have e : IntKind.u64.wrap (2 ^ s) = ((2 ^ s : Nat) : Int) := by
    rw [IntKind.wrap_u64, ← cast_pow2]
    exact Int.emod_eq_of_lt (Int.natCast_nonneg _) (Int.ofNat_lt.2 p)
  rw [e, bits_or_u64_nat u _ hu p]
set_option maxHeartbeats 1000000 in
theorem divmod_walk (l h m top : Nm) (ol : l.ok) (oh : h.ok) (om : m.ok) (hm : 0 < m.val) (rest A B : Nat) (hr : rest ≤ 512) (hA : A ≤ 512) (hB : B ≤ 256)
    (SA : ∀ w, Calls Try.prog 84 #[Wv l h] w fun e w' => e = .returned (.int .i64 A) ∧ Below w.heap.size w w')
    (SB : ∀ w, Calls Try.prog 23 #[N m] w fun e w' => e = .returned (.int .i64 B) ∧ Below w.heap.size w w')
    (ST : ∀ w, Calls Try.prog 85 #[Wv l h, .int .i64 rest] w fun e w' => e = .returned (N top) ∧ Below w.heap.size w w')
    (hE : ∀ i : Decidable ((A : Int) - B + 1 < 0), @ite Int ((A : Int) - B + 1 < 0) i 0 ((A : Int) - B + 1) = rest)
    (eT : top = LK (V l h) m.val.toNat rest) (eQ : QK (V l h) m.val.toNat rest = 0)
    (nz : Nm.beq m ⟨0, 0, 0, 0⟩ = false) (w : World) :
    Calls Try.prog 81 #[Wv l h, N m] w fun e w' => e = .returned (.tuple #[Wv (WL (V l h / m.val.toNat)) (WH (V l h / m.val.toNat)), N (Nm.of ((V l h % m.val.toNat : Nat) : Int)), .int .i64 0]) ∧ Below w.heap.size w w' := by
  have e1 := eqN m ⟨0, 0, 0, 0⟩
  rw [nz] at e1
  have NZ : Hid _ := nz
  clear nz
  go_enter Try.func81, Try.ntmps81
  go_wp2_with fail
  refine wp_region_up (by kernel_rfl) (by kernel_rfl) (fun U hU f hf hcl => ?_)
  have q := fun n => Lies8.up (l := l) (h := h) (k := w.heap.size) (by constructor <;> simp [go_sem]) (hf n).out
  have q_a := fun n => (q n).a
  have q_b := fun n => (q n).b
  have q_c := fun n => (q n).c
  have q_d := fun n => (q n).d
  have q_e := fun n => (q n).e
  have q_f := fun n => (q n).f
  have q_g := fun n => (q n).g
  have q_i := fun n => (q n).i
  clear q
  have r := fun n => Lies.up (x := m) (k := w.heap.size + 1) (by constructor <;> simp [go_sem]) (hf n).out
  have r_a := fun n => (r n).a
  have r_b := fun n => (r n).b
  have r_c := fun n => (r n).c
  have r_d := fun n => (r n).d
  clear r
  repeat (go_big_quiet_step (first | (go_at_call 84; exact (SA _).mono fun e w'' ⟨he, hb⟩ => ⟨he, hcl.out _ _ hb⟩) | (go_at_call 23; exact (SB _).mono fun e w'' ⟨he, hb⟩ => ⟨he, hcl.out _ _ hb⟩)))
  refine wpQuiet_nil ?_
  intro n
  have hb1 := (hf n).out
  generalize f n = w1 at hb1 ⊢
  have z1 := hb1.size
  simp at z1
  have La : Hid (Lies8 w1 w.heap.size l h) := Lies8.up (by constructor <;> simp [go_sem]) hb1
  have Lm : Hid (Lies w1 (w.heap.size + 1) m) := Lies.up (by constructor <;> simp [go_sem]) hb1
  have Lp : Hid (Cells8 w1 (w.heap.size + 1 + 1) (.int .u64 0) (.int .u64 0) (.int .u64 0) (.int .u64 0) (.int .u64 0) (.int .u64 0) (.int .u64 0) (.int .u64 0)) := Cells8.up (by constructor <;> simp [go_sem, frozen_out]) hb1
  have Lr : Hid (Cells4 w1 (w.heap.size + 1 + 1 + 1) (.int .u64 0) (.int .u64 0) (.int .u64 0) (.int .u64 0)) := Cells4.up (by constructor <;> simp [go_sem, frozen_out]) hb1
  have Lo : Hid (Cells8 w1 (w.heap.size + 1 + 1 + 1 + 1) (.int .u64 0) (.int .u64 0) (.int .u64 0) (.int .u64 0) (.int .u64 0) (.int .u64 0) (.int .u64 0) (.int .u64 0)) := Cells8.up (by constructor <;> simp [go_sem, frozen_out]) hb1
  have b1 : Hid (Below w.heap.size w w1) := by
    refine Below.trans ?_ (hb1.mono (by first | omega | (simp <;> omega)))
    repeat (first | exact Below.refl _ _ | refine Below.alloc ?_ (by first | omega | (simp <;> omega)) _)
  clear hb1 hf hcl q_a q_b q_c q_d q_e q_f q_g q_i r_a r_b r_c r_d
  obtain ⟨q0, q1, q2, q3, q4, q5, q6, q7⟩ := La.out
  go_wp2_with fail
  clear q0 q1 q2 q3 q4 q5 q6 q7
  refine (ST _).mono ?_
  rintro e w2 ⟨rfl, hb2⟩
  have z2 := hb2.size
  have La2 : Hid _ := La.out.up hb2
  have Lm2 : Hid _ := Lm.out.up hb2
  have Lp2 : Hid _ := Lp.out.up hb2
  have Lr2 : Hid _ := Lr.out.up hb2
  have Lo2 : Hid _ := Lo.out.up hb2
  have b2 : Hid (Below w.heap.size w w2) := b1.out.trans (hb2.mono b1.out.size)
  clear hb2 La Lm Lp Lr Lo b1
  go_wp2_with fail
  go_loopw [10] (fun i w' => ∃ k : Nat, k ≤ rest ∧ i = .int .i64 ((k : Int) - 1) ∧ Hid (DivSt w' w.heap.size w2.heap.size l h m (LK (V l h) m.val.toNat k) (fun j => ((word (QK (V l h) m.val.toNat k) j : Nat) : Int))) ∧ Hid (Below w.heap.size w w')) (fun i _ => (intOf i + 1).toNat)
  case atStart =>
    have s2 := b2.out.size
    refine ⟨rest, Nat.le_refl _, by go_num, (show DivSt _ _ _ _ _ _ _ _ from ?_), (show Below _ _ _ from b2.out.alloc s2 _)⟩
    rw [← eT, eQ]
    refine ⟨La2.out.alloc _, Lm2.out.alloc _, Lp2.out.up ((Below.refl _ _).alloc (Nat.le_refl _) _), Lr2.out.up ((Below.refl _ _).alloc (Nat.le_refl _) _), ?_, ?_, by omega⟩
    · have c := Lo2.out
      have q : Eight w2 (w.heap.size + 1 + 1 + 1 + 1) (fun j => ((word 0 j : Nat) : Int)) := by
        refine ⟨fun j hj => ?_, c.fz⟩
        have z : word 0 j = 0 := by simp [word]
        rw [z]
        match j, hj with
        | 0, _ => exact c.a
        | 1, _ => exact c.b
        | 2, _ => exact c.c
        | 3, _ => exact c.d
        | 4, _ => exact c.e
        | 5, _ => exact c.f
        | 6, _ => exact c.g
        | 7, _ => exact c.i
      exact q.up ((Below.refl _ _).alloc (Nat.le_refl _) _)
    · constructor <;> simp [go_sem]
  case round =>
    obtain ⟨k, hk, rfl, st, hb⟩ := hrel
    by_cases hlt : 0 < k
    · obtain ⟨k, rfl⟩ : ∃ j, k = j + 1 := ⟨k - 1, by omega⟩
      obtain ⟨S, T, C, R⟩ := round_of (A := V l h) om hm k
      have SS := add_fun (LK (V l h) m.val.toNat (k + 1)) (LK (V l h) m.val.toNat (k + 1)) (LK_ok _ _ _) (LK_ok _ _ _)
      rw [R.s, R.c] at SS
      have ht := R.t
      subst ht
      have SU := sub_fun _ m R.ok om
      have CM := cmp_fun _ m R.ok om
      have RR : Hid _ := R
      clear R hlt
      generalize eL : LK (V l h) m.val.toNat (k + 1) = x at *
      have EL : Hid _ := eL
      clear eL
      obtain ⟨x0, x1, x2, x3, xz⟩ := st.out.x
      rw [show ((k + 1 : Nat) : Int) - 1 = k by omega]
      have i0 : (k : Int) ≥ 0 := by omega
      go_wp2_with fail
      refine (SS _).mono ?_
      rintro e w3 ⟨rfl, hb3⟩
      have st3 : Hid _ := st.out.up hb3
      have b3 : Hid (Below w.heap.size w w3) := hb.out.trans (hb3.mono hb.out.size)
      clear hb3 st hb x0 x1 x2 x3 xz
      obtain ⟨x0, x1, x2, x3, xz⟩ := st3.out.x
      go_wp2_with fail
      have st4' : Hid (DivSt (st4 w3 w2.heap.size S) w.heap.size w2.heap.size l h m S _) := st3.out.left S
      have s2 := b2.out.size
      have b4 : Hid (Below w.heap.size w (st4 w3 w2.heap.size S)) := below_st4 b3.out s2
      clear x0 x1 x2 x3 xz st3 b3
      have WB := wideBit_fun l h ol oh k (by omega)
      generalize ((V l h / 2 ^ k % 2 : Nat) : Int) = bit at *
      refine wp_region_up_then 7 (by kernel_rfl) (by kernel_rfl) (by kernel_rfl) (by kernel_rfl) (by decide) (fun _ _ d _ _ h => by cases d <;> exact h) (fun U hU f hf hcl => ?_)
      have q := fun n => Lies8.up (l := l) (h := h) (k := w.heap.size) st4'.out.a (hf n).out
      have q_a := fun n => (q n).a
      have q_b := fun n => (q n).b
      have q_c := fun n => (q n).c
      have q_d := fun n => (q n).d
      have q_e := fun n => (q n).e
      have q_f := fun n => (q n).f
      have q_g := fun n => (q n).g
      have q_i := fun n => (q n).i
      clear q
      have r := fun n => Lies.up (x := S) (k := w2.heap.size) st4'.out.x.lies (hf n).out
      have r_a := fun n => (r n).a
      have r_b := fun n => (r n).b
      have r_c := fun n => (r n).c
      have r_d := fun n => (r n).d
      clear r
      simp only [List.take_succ_cons, List.take_zero, List.drop_succ_cons, List.drop_zero]
      repeat (go_big_quiet_step (first | (go_at_call 86; exact (WB _).mono fun e w'' ⟨he, hb⟩ => ⟨he, hcl.out _ _ hb⟩)))
      refine wpQuiet_nil ?_
      intro n
      have hb5 := (hf n).out
      generalize f n = w5 at hb5 ⊢
      have st5 : Hid _ := st4'.out.up hb5
      have b5 : Hid (Below w.heap.size w w5) := b4.out.trans (hb5.mono b4.out.size)
      clear hf hcl hb5 st4' b4 q_a q_b q_c q_d q_e q_f q_g q_i r_a r_b r_c r_d
      obtain ⟨x0, x1, x2, x3, xz⟩ := st5.out.x
      obtain ⟨m0, m1, m2, m3⟩ := st5.out.m
      have qs := b5.out.size
      have ok5 := st5.out.left0 (bits .or .u64 S.a bit)
      by_cases hC : C = 1
      · have hup : m.val.toNat ≤ 2 * (V l h / 2 ^ (k + 1) % m.val.toNat) + V l h / 2 ^ k % 2 := Classical.byContradiction fun hn => (RR.out.no hn).1 hC
        subst hC
        have st7 : Hid _ := ok5
        clear ok5
        have b7 : Hid (Below w.heap.size w (w5.setCell ⟨w2.heap.size, 0, none⟩ (.int .u64 (bits .or .u64 S.a bit)))) := b5.out.setCell s2 _
        go_wp2_with fail
        clear x0 x1 x2 x3 xz m0 m1 m2 m3 st5 b5
        rw [(RR.out.up hup).2] at SU
        have HQ : Hid _ := QK_up (A := V l h) (k := k) (m := m.val.toNat) (by omega) hup
        clear hup
        refine (SU _).mono ?_
        rintro e w6 ⟨rfl, hb6⟩
        have st6 : Hid _ := st7.out.up hb6
        have b6 : Hid (Below w.heap.size w w6) := b7.out.trans (hb6.mono b7.out.size)
        clear hb6 st7 b7
        obtain ⟨x0, x1, x2, x3, xz⟩ := st6.out.x
        have far := st6.out.far
        have ne : ¬ w2.heap.size = w.heap.size + 1 + 1 + 1 + 1 := by omega
        have ho := st6.out.o.cell (k / 64) (by omega)
        have hz := st6.out.o.fz
        obtain ⟨j, hj⟩ : ∃ j, k / 64 = j := ⟨_, rfl⟩
        obtain ⟨s, hs⟩ : ∃ s, k % 64 = s := ⟨_, rfl⟩
        have h3 : (k : Int) / 64 = j := by omega
        have h4 : (k : Int) % 64 = s := by omega
        have h5 : s < 64 := by omega
        have h6 : j < 8 := by omega
        rw [hj] at ho
        have HW : Hid _ := or_pow (word_lt (QK (V l h) m.val.toNat (k + 1)) j) h5
        generalize hv : ((word (QK (V l h) m.val.toNat (k + 1)) j : Nat) : Int) = v at *
        have HV : Hid _ := hv
        clear hv
        go_wp2_with fail
        have b8 : Hid (Below w.heap.size w ((st4 w6 w2.heap.size (LK (V l h) m.val.toNat k)).setCell ⟨w.heap.size + 1 + 1 + 1 + 1, j, none⟩ (.int .u64 (bits .or .u64 v (IntKind.u64.wrap (2 ^ s)))))) := (below_st4 b6.out s2).setCell (by simp; omega) _
        refine ⟨⟨k, by omega, rfl, (show DivSt _ _ _ _ _ _ _ _ from ?_), b8⟩, by simp [intOf]⟩
        refine (st6.out.left (LK (V l h) m.val.toNat k)).often h6 ?_
        intro i hi
        rw [HQ.out, word_bit (QK_low (V l h) m.val.toNat k) i, hj, hs]
        by_cases hij : i = j
        · rw [if_pos hij, if_pos hij, hij, HW.out]
        · rw [if_neg hij, if_neg hij]
      · have st5' : Hid _ := ok5
        clear ok5
        have b5' : Hid (Below w.heap.size w (w5.setCell ⟨w2.heap.size, 0, none⟩ (.int .u64 (bits .or .u64 S.a bit)))) := b5.out.setCell s2 _
        go_wp2_with fail
        clear x0 x1 x2 x3 xz m0 m1 m2 m3 st5 b5
        refine (CM _).mono ?_
        rintro e w7 ⟨rfl, hb7⟩
        have st7 : Hid _ := st5'.out.up hb7
        have b7 : Hid (Below w.heap.size w w7) := b5'.out.trans (hb7.mono b5'.out.size)
        clear hb7 st5' b5'
        obtain ⟨x0, x1, x2, x3, xz⟩ := st7.out.x
        obtain ⟨m0, m1, m2, m3⟩ := st7.out.m
        by_cases hg : cmpV ⟨bits .or .u64 S.a bit, S.b, S.c, S.d⟩ m ≥ 0
        · have hup : m.val.toNat ≤ 2 * (V l h / 2 ^ (k + 1) % m.val.toNat) + V l h / 2 ^ k % 2 := Classical.byContradiction fun hn => (RR.out.no hn).2.1 hg
          go_wp2_with fail
          clear x0 x1 x2 x3 xz m0 m1 m2 m3
          rw [(RR.out.up hup).2] at SU
          have HQ : Hid _ := QK_up (A := V l h) (k := k) (m := m.val.toNat) (by omega) hup
          clear hup
          refine (SU _).mono ?_
          rintro e w6 ⟨rfl, hb6⟩
          have st6 : Hid _ := st7.out.up hb6
          have b6 : Hid (Below w.heap.size w w6) := b7.out.trans (hb6.mono b7.out.size)
          clear hb6 st7 b7
          obtain ⟨x0, x1, x2, x3, xz⟩ := st6.out.x
          have far := st6.out.far
          have ne : ¬ w2.heap.size = w.heap.size + 1 + 1 + 1 + 1 := by omega
          have ho := st6.out.o.cell (k / 64) (by omega)
          have hz := st6.out.o.fz
          obtain ⟨j, hj⟩ : ∃ j, k / 64 = j := ⟨_, rfl⟩
          obtain ⟨s, hs⟩ : ∃ s, k % 64 = s := ⟨_, rfl⟩
          have h3 : (k : Int) / 64 = j := by omega
          have h4 : (k : Int) % 64 = s := by omega
          have h5 : s < 64 := by omega
          have h6 : j < 8 := by omega
          rw [hj] at ho
          have HW : Hid _ := or_pow (word_lt (QK (V l h) m.val.toNat (k + 1)) j) h5
          generalize hv : ((word (QK (V l h) m.val.toNat (k + 1)) j : Nat) : Int) = v at *
          have HV : Hid _ := hv
          clear hv
          go_wp2_with fail
          have b8 : Hid (Below w.heap.size w ((st4 w6 w2.heap.size (LK (V l h) m.val.toNat k)).setCell ⟨w.heap.size + 1 + 1 + 1 + 1, j, none⟩ (.int .u64 (bits .or .u64 v (IntKind.u64.wrap (2 ^ s)))))) := (below_st4 b6.out s2).setCell (by simp; omega) _
          refine ⟨⟨k, by omega, rfl, (show DivSt _ _ _ _ _ _ _ _ from ?_), b8⟩, by simp [intOf]⟩
          refine (st6.out.left (LK (V l h) m.val.toNat k)).often h6 ?_
          intro i hi
          rw [HQ.out, word_bit (QK_low (V l h) m.val.toNat k) i, hj, hs]
          by_cases hij : i = j
          · rw [if_pos hij, if_pos hij, hij, HW.out]
          · rw [if_neg hij, if_neg hij]
        · have hup : ¬ m.val.toNat ≤ 2 * (V l h / 2 ^ (k + 1) % m.val.toNat) + V l h / 2 ^ k % 2 := fun h => (RR.out.up h).1.elim hC hg
          have HT : Hid _ := (RR.out.no hup).2.2
          have HQ : Hid _ := QK_same (A := V l h) (k := k) (m := m.val.toNat) (by omega) hup
          clear hup CM
          generalize cmpV ⟨bits .or .u64 S.a bit, S.b, S.c, S.d⟩ m = cv at *
          have hg2 : cv < 0 := by omega
          have hCb : (C == 1) = false := beq_eq_false_iff_ne.2 hC
          go_wp2_with fail
          refine ⟨⟨k, by omega, rfl, (show DivSt _ _ _ _ _ _ _ _ from ?_), b7⟩, by simp [intOf]⟩
          rw [HQ.out, ← HT.out]
          exact st7.out
    · have hk0 : k = 0 := by omega
      subst hk0
      clear hlt hk
      have LQ : Hid _ := st.out.o.lies8 (l := WL (V l h / m.val.toNat)) (h := WH (V l h / m.val.toNat)) (fun j hj => by
        rw [QK_zero]
        exact words_of (Nat.lt_of_le_of_lt (Nat.div_le_self _ _) (V_lt ol oh)) j hj)
      have LL : Hid _ := st.out.x.lies
      have e0 : LK (V l h) m.val.toNat 0 = Nm.of ((V l h % m.val.toNat : Nat) : Int) := by simp [LK]
      rw [e0] at st LL
      have P : Hid _ := st.out.p
      have R : Hid _ := st.out.r
      have far := st.out.far
      clear e0 st
      generalize eql : WL (V l h / m.val.toNat) = ql at *
      generalize eqh : WH (V l h / m.val.toNat) = qh at *
      generalize ey : Nm.of ((V l h % m.val.toNat : Nat) : Int) = y at *
      have E : Hid _ := And.intro eql (And.intro eqh ey)
      clear eql eqh ey
      go_wp2_with fail
      obtain ⟨q0, q1, q2, q3, q4, q5, q6, q7⟩ := LQ.out
      obtain ⟨y0, y1, y2, y3⟩ := LL.out
      obtain ⟨p0, p1, p2, p3, p4, p5, p6, p7, pz⟩ := P.out
      obtain ⟨r0, r1, r2, r3, rz⟩ := R.out
      have n1 : ¬ w.heap.size + 1 + 1 = w2.heap.size := by omega
      have n2 : ¬ w.heap.size + 1 + 1 + 1 = w2.heap.size := by omega
      go_region
      go_wp2
      refine bodyPost_ret (v := .tuple #[Wv ql qh, N y, .int .i64 0]) (by simp [results, Try.results81, go_sem, p0, p1, p2, p3, p4, p5, p6, p7, r0, r1, r2, r3]) rfl ⟨by rw [E.out.1, E.out.2.1, E.out.2.2], ?_⟩
      refine Below.drew ?_
      iterate 12 refine Below.setCell ?_ (by first | omega | (simp <;> omega)) _
      exact hb.out

theorem lenN_pos {n : Nat} (h : 0 < n) : 2 ^ (lenN n - 1) ≤ n := by
  have e : ¬ lenN n ≤ lenN n - 1 := by
    have : ¬ lenN n ≤ 0 := by rw [lenN_le]; simp; omega
    omega
  have := mt (lenN_le (n := n) (k := lenN n - 1)).2 e
  omega
/-- quot.DivMod, where m is not 0. -/
theorem divmod_fun (l h m : Nm) (ol : l.ok) (oh : h.ok) (om : m.ok) (nz : m ≠ ⟨0, 0, 0, 0⟩) (w : World) :
    Calls Try.prog 81 #[Wv l h, N m] w fun e w' => e = .returned (.tuple #[Wv (WL (V l h / m.val.toNat)) (WH (V l h / m.val.toNat)), N (Nm.of ((V l h % m.val.toNat : Nat) : Int)), .int .i64 0]) ∧ Below w.heap.size w w' := by
  have m0 := Nm.val_nonneg om
  have m1 := Nm.val_lt om
  have hm : 0 < m.val := by
    rcases Int.lt_or_eq_of_le m0 with h | h
    · exact h
    · exact absurd (Nm.ext_val om zero_ok (by rw [← h]; rfl)) nz
  have v1 := V_lt ol oh
  have lA := (lenN_le (n := V l h) (k := 512)).2 v1
  have lB := (lenN_le (n := m.val.toNat) (k := 256)).2 (by rw [M_cast] at m1; omega)
  have pB := lenN_pos (n := m.val.toNat) (by omega)
  have lA' := (lenN_le (n := V l h)).1 (Nat.le_refl _)
  have lB1 : 0 < lenN m.val.toNat := by
    have : ¬ lenN m.val.toNat ≤ 0 := by rw [lenN_le]; simp; omega
    omega
  have small : V l h / 2 ^ (lenN (V l h) + 1 - lenN m.val.toNat) < m.val.toNat := by
    refine Nat.lt_of_lt_of_le ?_ pB
    rw [Nat.div_lt_iff_lt_mul (Nat.two_pow_pos _), ← Nat.pow_add]
    refine Nat.lt_of_lt_of_le lA' (Nat.pow_le_pow_right (by decide) (by omega))
  have eT : (V l h / 2 ^ (lenN (V l h) + 1 - lenN m.val.toNat) : Nat) = V l h / 2 ^ (lenN (V l h) + 1 - lenN m.val.toNat) % m.val.toNat := (Nat.mod_eq_of_lt small).symm
  refine divmod_walk l h m _ ol oh om hm (lenN (V l h) + 1 - lenN m.val.toNat) (lenN (V l h)) (lenN m.val.toNat) (by omega) lA lB (wideLen_fun l h ol oh) (len_fun m om) (wideTop_fun l h ol oh _ (by omega) (by rw [M_cast] at m1; omega)) ?_ ?_ ?_ (Nm.beq_ne nz) w
  · intro i
    split <;> omega
  · unfold LK
    rw [← eT]
  · unfold QK
    rw [Nat.div_eq_of_lt small, Nat.zero_mul]
attribute [local go_sem] frozen_out
set_option maxHeartbeats 400000 in
theorem divmod_zero (l h : Nm) (w : World) :
    Calls Try.prog 81 #[Wv l h, N ⟨0, 0, 0, 0⟩] w fun e w' => e = .returned (.tuple #[Wv ⟨0, 0, 0, 0⟩ ⟨0, 0, 0, 0⟩, N ⟨0, 0, 0, 0⟩, .int .i64 1]) ∧ Below w.heap.size w w' := by
  have e1 := eqN ⟨0, 0, 0, 0⟩ ⟨0, 0, 0, 0⟩
  rw [Nm.beq_self] at e1
  go_enter Try.func81, Try.ntmps81
  go_wp2
  refine bodyPost_ret (v := .tuple #[Wv ⟨0, 0, 0, 0⟩ ⟨0, 0, 0, 0⟩, N ⟨0, 0, 0, 0⟩, .int .i64 1]) (by simp (maxDischargeDepth := 8) [results, Try.results81, go_sem]) rfl ⟨rfl, ?_⟩
  repeat (first | refine Below.setCell ?_ (by first | omega | (simp <;> omega)) _ | refine Below.drew ?_ | refine Below.alloc ?_ (by first | omega | (simp <;> omega)) _ | exact Below.refl _ _)
end Go.Proofs.Ytkgfeacednomfaa
