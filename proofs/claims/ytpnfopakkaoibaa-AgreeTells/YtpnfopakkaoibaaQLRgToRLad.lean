/- Texts that were joined: LRg, RLad. -/
import Derived.Test.YtpnfopakkaoibaaQCAssToLLad
import Derived.Test.YtpnfopakkaoibaaQMadeToKnT
import Derived.Test.YtpnfopakkaoibaaQFePToROft
import Derived.Test.YtpnfopakkaoibaaQDDigPToFeN
import Derived.Test.YtpnfopakkaoibaaQUpMToUpS
import Derived.Test.YtpnfopakkaoibaaQQMathToAdN
import Derived.Test.YtpnfopakkaoibaaQYcToBtO
/- The document's ladder by halves and the program's: the same pairs up to a factor that is not 0. Mathematics alone. -/
namespace Go.Proofs.Ytpnfopakkaoibaa.Cv
open Go.Proofs.Ytpnfopakkaoibaa
/-- double and both, as the document's side has them. -/
def dbl (q : Nat × Nat) : Nat × Nat :=
  (F.mul (F.sub (F.mul q.1 q.1) (F.mul q.2 q.2)) (F.sub (F.mul q.1 q.1) (F.mul q.2 q.2)),
   F.mul (F.mul 4 (F.mul q.1 q.2)) (F.add (F.add (F.mul q.1 q.1) (F.mul 486662 (F.mul q.1 q.2))) (F.mul q.2 q.2)))
def bth (u : Nat) (q r : Nat × Nat) : Nat × Nat :=
  (F.mul (F.sub (F.mul q.1 r.1) (F.mul q.2 r.2)) (F.sub (F.mul q.1 r.1) (F.mul q.2 r.2)),
   F.mul u (F.mul (F.sub (F.mul q.1 r.2) (F.mul q.2 r.1)) (F.sub (F.mul q.1 r.2) (F.mul q.2 r.1))))
/-- Of n, and of n + 1; by halves, at most k times. -/
def rg (u : Nat) : Nat → Nat → (Nat × Nat) × (Nat × Nat)
  | 0, _ => ((1, 0), (u, 1))
  | k + 1, n => if n = 0 then ((1, 0), (u, 1)) else if n % 2 = 0 then (dbl (rg u k (n / 2)).1, bth u (rg u k (n / 2)).1 (rg u k (n / 2)).2) else (bth u (rg u k (n / 2)).1 (rg u k (n / 2)).2, dbl (rg u k (n / 2)).2)
theorem rg_zero (u k : Nat) : rg u k 0 = ((1, 0), (u, 1)) := by
  cases k with
  | zero => rfl
  | succ k => rw [rg, if_pos rfl]
theorem rg_more (u : Nat) : ∀ k n, n < 2 ^ k → rg u (k + 1) n = rg u k n
  | 0, n, h => by
    have : n = 0 := by rw [Nat.pow_zero] at h; omega
    subst this
    rw [rg_zero, rg_zero]
  | k + 1, n, h => by
    have h2 : n / 2 < 2 ^ k := by rw [Nat.pow_succ] at h; omega
    have ih := rg_more u k (n / 2) h2
    rw [rg, ih]
    conv => rhs; rw [rg]
theorem dbl_K (q : Nat × Nat) : K (dbl q).1 (((q.1 : Int) * q.1 - q.2 * q.2) * ((q.1 : Int) * q.1 - q.2 * q.2)) ∧ K (dbl q).2 (4 * ((q.1 : Int) * q.2) * ((q.1 : Int) * q.1 + 486662 * ((q.1 : Int) * q.2) + q.2 * q.2)) := by
  have kd := (K_sub _ _).trans ((K_mul q.1 q.1).sub (K_mul q.2 q.2))
  have kx := K_mul q.1 q.2
  have k4 := (K_mul 4 _).trans ((K.refl ((4 : Nat) : Int)).mul kx)
  have kA := (K_mul 486662 _).trans ((K.refl ((486662 : Nat) : Int)).mul kx)
  have ks := (K_add _ _).trans (((K_add _ _).trans ((K_mul q.1 q.1).add kA)).add (K_mul q.2 q.2))
  exact ⟨(K_mul _ _).trans kd.sq, (K_mul _ _).trans (k4.mul ks)⟩
theorem bth_K (u : Nat) (q r : Nat × Nat) : K (bth u q r).1 (((q.1 : Int) * r.1 - q.2 * r.2) * ((q.1 : Int) * r.1 - q.2 * r.2)) ∧ K (bth u q r).2 ((u : Int) * (((q.1 : Int) * r.2 - q.2 * r.1) * ((q.1 : Int) * r.2 - q.2 * r.1))) := by
  have ks := (K_sub _ _).trans ((K_mul q.1 r.1).sub (K_mul q.2 r.2))
  have kt := (K_sub _ _).trans ((K_mul q.1 r.2).sub (K_mul q.2 r.1))
  exact ⟨(K_mul _ _).trans ks.sq, (K_mul _ _).trans ((K.refl (u : Int)).mul ((K_mul _ _).trans kt.sq))⟩
/-- a is c times b. -/
def Sc (c : Int) (a b : Nat × Nat) : Prop := K a.1 (c * b.1) ∧ K a.2 (c * b.2)
theorem tw_sc {c : Int} {a b : Nat × Nat} (h : Sc c a b) : Sc (c * c * (c * c)) (tw a) (dbl b) := by
  obtain ⟨h1, h2⟩ := h
  have t := tw_K a
  have e := dbl_K b
  have kS := (h1.add h2).sq
  have kT := (h1.sub h2).sq
  have ke := kS.sub kT
  constructor
  · refine (t.1.trans (kS.mul kT)).trans (K.symm ?_)
    refine ((K.refl (c * c * (c * c))).mul e.1).trans ?_
    exact (Z.zero).of_eq (by grind)
  · refine (t.2.trans (ke.mul (kS.add ((K.refl (121665 : Int)).mul ke)))).trans (K.symm ?_)
    refine ((K.refl (c * c * (c * c))).mul e.2).trans ?_
    exact (Z.zero).of_eq (by grind)
theorem jn_sc (u : Nat) {c e : Int} {q r Q R : Nat × Nat} (h : Sc c q Q) (h' : Sc e r R) : Sc (4 * (c * c) * (e * e)) (jn u q r) (bth u Q R) := by
  obtain ⟨h1, h2⟩ := h
  obtain ⟨g1, g2⟩ := h'
  have t := jn_K u q r
  have b := bth_K u Q R
  have ka := (g1.add g2).mul (h1.sub h2)
  have kb := (g1.sub g2).mul (h1.add h2)
  constructor
  · refine (t.1.trans (ka.add kb).sq).trans (K.symm ?_)
    refine ((K.refl (4 * (c * c) * (e * e))).mul b.1).trans ?_
    exact (Z.zero).of_eq (by grind)
  · refine (t.2.trans ((K.refl (u : Int)).mul (ka.sub kb).sq)).trans (K.symm ?_)
    refine ((K.refl (4 * (c * c) * (e * e))).mul b.2).trans ?_
    exact (Z.zero).of_eq (by grind)
theorem four_no : ¬ Z 4 := fun h => by
  have : Z (2 * 2) := h
  rcases Z.prime this with h | h
  · exact two_no h
  · exact two_no h
theorem sc_step {c e : Int} (hc : ¬ Z c) (he : ¬ Z e) : ¬ Z (c * c * (c * c)) ∧ ¬ Z (e * e * (e * e)) ∧ ¬ Z (4 * (c * c) * (e * e)) :=
  ⟨no_mul (no_mul hc hc) (no_mul hc hc), no_mul (no_mul he he) (no_mul he he), no_mul (no_mul four_no (no_mul hc hc)) (no_mul he he)⟩
theorem Sc.trans {c e : Int} {a b g : Nat × Nat} (h : Sc c a b) (h' : Sc e b g) : Sc (c * e) a g :=
  ⟨(h.1.trans ((K.refl c).mul h'.1)).trans ((Z.zero).of_eq (by grind)), (h.2.trans ((K.refl c).mul h'.2)).trans ((Z.zero).of_eq (by grind))⟩
theorem dbl_one : dbl (1, 0) = (1, 0) := by decide +kernel
theorem bth_one (u : Nat) : Sc u (bth u (1, 0) (u, 1)) (u, 1) := by
  have b := bth_K u (1, 0) (u, 1)
  simp only [Int.natCast_zero, Int.natCast_one] at b
  exact ⟨b.1.trans ((Z.zero).of_eq (by grind)), b.2.trans ((Z.zero).of_eq (by simp only [Int.natCast_one]; grind))⟩
theorem rg_step {u n : Nat} (h0 : n ≠ 0) (hn : n < 2 ^ 256) : rg u 256 n = if n % 2 = 0 then (dbl (rg u 256 (n / 2)).1, bth u (rg u 256 (n / 2)).1 (rg u 256 (n / 2)).2) else (bth u (rg u 256 (n / 2)).1 (rg u 256 (n / 2)).2, dbl (rg u 256 (n / 2)).2) := by
  have h2 : n / 2 < 2 ^ 255 := by omega
  have e := rg_more u 255 (n / 2) h2
  rw [show 255 + 1 = 256 from rfl] at e
  rw [e]
  show rg u (255 + 1) n = _
  rw [rg, if_neg h0]
theorem lst_rg {u k : Nat} (hu : ¬ Z (u : Int)) (hk : k < 2 ^ 256) : ∀ i, i ≤ 256 → ∃ c e : Int, ¬ Z c ∧ ¬ Z e ∧ Sc c (lst u k i).1 (rg u 256 (k / 2 ^ (256 - i))).1 ∧ Sc e (lst u k i).2 (rg u 256 (k / 2 ^ (256 - i))).2
  | 0, _ => by
    rw [show k / 2 ^ (256 - 0) = 0 from Nat.div_eq_of_lt hk, rg_zero]
    refine ⟨1, 1, one_no, one_no, ⟨?_, ?_⟩, ?_, ?_⟩ <;> (rw [Int.one_mul]; exact K.refl _)
  | i + 1, hi => by
    obtain ⟨c, e, hc, he, hq, hr⟩ := lst_rg hu hk i (by omega)
    obtain ⟨n1, n2, n3⟩ := sc_step hc he
    have hn : k / 2 ^ (256 - i) = k / 2 ^ (255 - i) / 2 := by rw [Nat.div_div_eq_div_mul, ← Nat.pow_succ, show (255 - i).succ = 256 - i by omega]
    have hlt : k / 2 ^ (255 - i) < 2 ^ 256 := Nat.lt_of_le_of_lt (Nat.div_le_self _ _) hk
    rw [show 256 - (i + 1) = 255 - i by omega]
    rw [hn] at hq hr
    have hl : lst u k (i + 1) = if k / 2 ^ (255 - i) % 2 = 0 then (tw (lst u k i).1, jn u (lst u k i).1 (lst u k i).2) else (jn u (lst u k i).1 (lst u k i).2, tw (lst u k i).2) := rfl
    rw [hl]
    clear hl hn
    generalize k / 2 ^ (255 - i) = n at *
    generalize lst u k i = L at *
    by_cases h0 : n = 0
    · subst h0
      rw [Nat.zero_div, rg_zero] at hq hr
      rw [if_pos (Nat.zero_mod 2), rg_zero]
      refine ⟨_, _, n1, no_mul n3 hu, ?_, (jn_sc u hq hr).trans (bth_one u)⟩
      have := tw_sc hq
      rwa [dbl_one] at this
    · rw [rg_step h0 hlt]
      by_cases h2 : n % 2 = 0
      · rw [if_pos h2, if_pos h2]
        exact ⟨_, _, n1, n3, tw_sc hq, jn_sc u hq hr⟩
      · rw [if_neg h2, if_neg h2]
        exact ⟨_, _, n3, n2, jn_sc u hq hr, tw_sc hr⟩
theorem sc_quot {c : Int} (hc : ¬ Z c) {a b : Nat × Nat} (h : Sc c a b) : F.mul a.1 (F.inv a.2) = F.mul b.1 (F.inv b.2) := by
  by_cases hb : Z (b.2 : Int)
  · have ha : Z (a.2 : Int) := h.2.z (Z.mul c hb)
    rw [F.inv_zero ((Z_nat _).1 ha), F.inv_zero ((Z_nat _).1 hb)]
    unfold F.mul
    rw [Nat.mul_zero, Nat.mul_zero]
  · have ha : ¬ Z (a.2 : Int) := h.2.no (no_mul hc hb)
    have q1 := quot (t := a.1) (K.refl (a.2 : Int)) ha
    have q2 := quot (t := b.1) (K.refl (b.2 : Int)) hb
    refine (K_eq (F.mul_lt _ _) (F.mul_lt _ _)).1 (cancel ha ?_)
    refine q1.trans (h.1.trans ?_)
    refine ((K.refl c).mul q2.symm).trans ?_
    refine K.trans ?_ ((K.refl _).mul h.2.symm)
    exact (Z.zero).of_eq (by grind)
theorem rg_flat : ∀ k n, (rg 0 k n).1.2 = 0
  | 0, _ => rfl
  | k + 1, n => by
    have ih := rg_flat k (n / 2)
    rw [rg]
    split
    · rfl
    · split
      · show F.mul (F.mul 4 (F.mul _ (rg 0 k (n / 2)).1.2)) _ = 0
        rw [ih]
        unfold F.mul
        simp
      · show F.mul 0 _ = 0
        unfold F.mul
        simp
/-- The document's ladder by halves is the ladder. -/
theorem lad_rg (k u : Nat) (hk : k < 2 ^ 256) : lad k u = F.mul (rg (u % F.p) 256 k).1.1 (F.inv (rg (u % F.p) 256 k).1.2) := by
  by_cases hu : u % F.p = 0
  · rw [lad_flat k hu, hu, rg_flat, F.inv_zero (by rfl)]
    unfold F.mul
    simp
  · have hz : ¬ Z ((u % F.p : Nat) : Int) := fun h => hu (by have := (Z_nat _).1 h; rwa [Nat.mod_mod] at this)
    obtain ⟨c, e, hc, _, hq, _⟩ := lst_rg hz hk 256 (Nat.le_refl _)
    rw [Nat.sub_self, Nat.pow_zero, Nat.div_one] at hq
    exact sc_quot hc hq
theorem one_lt : 1 < F.p := by decide
theorem dbl_lt (q : Nat × Nat) : (dbl q).1 < F.p ∧ (dbl q).2 < F.p := ⟨F.mul_lt _ _, F.mul_lt _ _⟩
theorem bth_lt (u : Nat) (q r : Nat × Nat) : (bth u q r).1 < F.p ∧ (bth u q r).2 < F.p := ⟨F.mul_lt _ _, F.mul_lt _ _⟩
theorem rg_lt {u : Nat} (hu : u < F.p) : ∀ k n, ((rg u k n).1.1 < F.p ∧ (rg u k n).1.2 < F.p) ∧ (rg u k n).2.1 < F.p ∧ (rg u k n).2.2 < F.p
  | 0, _ => ⟨⟨one_lt, F.p_pos⟩, hu, one_lt⟩
  | k + 1, n => by
    rw [rg]
    split
    · exact ⟨⟨one_lt, F.p_pos⟩, hu, one_lt⟩
    · split
      · exact ⟨dbl_lt _, bth_lt _ _ _⟩
      · exact ⟨bth_lt _ _ _, dbl_lt _⟩
end Go.Proofs.Ytpnfopakkaoibaa.Cv

/- The document's ladder: double. -/
namespace Go.Proofs.Ytpnfopakkaoibaa
open Go.RowKit
attribute [local go_sem] World.cell?_alloc_some cell_alloc2 cell_alloc3 cell_alloc4 frozen?_alloc_cells frozen_out
set_option linter.unusedSimpArgs false
theorem dg_486 (v : Value) (w : World) (h : (MP.v1 486662).p v w) : Calls Try.prog 57 #[v] w fun e w' => (∃ v', e = .returned v' ∧ Sl w' v' (P.dg 486662)) ∧ Below w.heap.size w w' := by
  obtain ⟨g, e, hb⟩ := h
  subst e
  have := digits_fun g [486662] (by decide) 1 1 rfl (by decide) w (fun j hj => by
    obtain rfl : j = 0 := by omega
    exact hb.cell 0 _ rfl)
  exact this
theorem cfDig (args : Array Value) (W : World) : (callFunc 57 args).run Try.prog W = .ok (.enter 57 args) W := cf_is (fn := Try.f57) (by kernel_rfl) (by decide) (by kernel_rfl) args W
theorem cfFeo (args : Array Value) (W : World) : (callFunc 78 args).run Try.prog W = .ok (.enter 78 args) W := cf_is (fn := Try.f78) (by kernel_rfl) (by decide) (by kernel_rfl) args W
theorem cfBy (args : Array Value) (W : World) : (callFunc 53 args).run Try.prog W = .ok (.enter 53 args) W := cf_is (fn := Try.f53) (by kernel_rfl) (by decide) (by kernel_rfl) args W
theorem cfPlus (args : Array Value) (W : World) : (callFunc 88 args).run Try.prog W = .ok (.enter 88 args) W := cf_is (fn := Try.f88) (by kernel_rfl) (by decide) (by kernel_rfl) args W
theorem yields_v1 {o : Oper} {a : Act} {w : World} {c : Int} (ho : o.op = .buildSlice 77 1 #[(0, .const (.int .u64 c))]) : YieldsP Try.prog o a w (MP.v1 c).p := by
  have e : (execOp a.eval o).run Try.prog w = .ok (.value (.slice (some ⟨w.heap.size, 0, none⟩) 1 1)) (w.alloc (.cells #[.int .u64 c] 26)) := by
    unfold execOp
    simp [ho, go_sem]
  unfold YieldsP
  rw [e]
  exact ⟨⟨_, rfl, KBlk.made w [.int .u64 c] _⟩, (Below.refl _ _).alloc (Nat.le_refl _) _⟩
set_option maxRecDepth 20000 in
set_option maxHeartbeats 1000000 in
theorem double_walk (A x y xx zz xz dd am ap sm da fm rm : Nat)
    (DG : Hid (∀ v W, (MP.v1 486662).p v W → Calls Try.prog 57 #[v] W fun e w' => (∃ v', e = .returned v' ∧ Sl w' v' (P.dg A)) ∧ Below W.heap.size W w'))
    (FO : Hid (∀ v W, Sl W v (P.dg A) → Calls Try.prog 78 #[v] W fun e w' => e = .returned (.agg (fR A).toArray) ∧ Below W.heap.size W w'))
    (M1 : ∀ w, Calls Try.prog 53 #[.agg (fR (x)).toArray, .agg (fR (x)).toArray] w fun e w' => e = .returned (.agg (fR (xx)).toArray) ∧ Below w.heap.size w w')
    (M2 : ∀ w, Calls Try.prog 53 #[.agg (fR (y)).toArray, .agg (fR (y)).toArray] w fun e w' => e = .returned (.agg (fR (zz)).toArray) ∧ Below w.heap.size w w')
    (M3 : ∀ w, Calls Try.prog 53 #[.agg (fR (x)).toArray, .agg (fR (y)).toArray] w fun e w' => e = .returned (.agg (fR (xz)).toArray) ∧ Below w.heap.size w w')
    (L1 : ∀ w, Calls Try.prog 81 #[.agg (fR (xx)).toArray, .agg (fR (zz)).toArray] w fun e w' => e = .returned (.agg (fR (dd)).toArray) ∧ Below w.heap.size w w')
    (A1 : ∀ w, Calls Try.prog 53 #[.agg (fR (A)).toArray, .agg (fR (xz)).toArray] w fun e w' => e = .returned (.agg (fR (am)).toArray) ∧ Below w.heap.size w w')
    (A2 : ∀ w, Calls Try.prog 88 #[.agg (fR (xx)).toArray, .agg (fR (am)).toArray] w fun e w' => e = .returned (.agg (fR (ap)).toArray) ∧ Below w.heap.size w w')
    (A3 : ∀ w, Calls Try.prog 88 #[.agg (fR (ap)).toArray, .agg (fR (zz)).toArray] w fun e w' => e = .returned (.agg (fR (sm)).toArray) ∧ Below w.heap.size w w')
    (D1 : ∀ w, Calls Try.prog 53 #[.agg (fR (dd)).toArray, .agg (fR (dd)).toArray] w fun e w' => e = .returned (.agg (fR (da)).toArray) ∧ Below w.heap.size w w')
    (S4 : ∀ w, Calls Try.prog 80 #[.int .i64 4] w fun e w' => e = .returned (.agg (fR (4)).toArray) ∧ Below w.heap.size w w')
    (D2 : ∀ w, Calls Try.prog 53 #[.agg (fR (4)).toArray, .agg (fR (xz)).toArray] w fun e w' => e = .returned (.agg (fR (fm)).toArray) ∧ Below w.heap.size w w')
    (D3 : ∀ w, Calls Try.prog 53 #[.agg (fR (fm)).toArray, .agg (fR (sm)).toArray] w fun e w' => e = .returned (.agg (fR (rm)).toArray) ∧ Below w.heap.size w w')
    (w : World) :
    Calls Try.prog 82 #[twV x y] w fun e w' => e = .returned (twV da rm) ∧ Below w.heap.size w w' := by
  go_enter Try.func82, Try.ntmps82
  have s0 : Hid (Kn ((w.alloc (.cells (twR (x) (y)).toArray 72)).alloc (.cells #[Value.int IntKind.i64 0, Value.int IntKind.i64 0, Value.int IntKind.i64 0, Value.int IntKind.i64 0, Value.int IntKind.i64 0, Value.int IntKind.i64 0, Value.int IntKind.i64 0, Value.int IntKind.i64 0, Value.int IntKind.i64 0, Value.int IntKind.i64 0, Value.int IntKind.i64 0, Value.int IntKind.i64 0, Value.int IntKind.i64 0, Value.int IntKind.i64 0, Value.int IntKind.i64 0, Value.int IntKind.i64 0, Value.int IntKind.i64 0, Value.int IntKind.i64 0, Value.int IntKind.i64 0, Value.int IntKind.i64 0, Value.int IntKind.i64 0, Value.int IntKind.i64 0, Value.int IntKind.i64 0, Value.int IntKind.i64 0, Value.int IntKind.i64 0, Value.int IntKind.i64 0, Value.int IntKind.i64 0, Value.int IntKind.i64 0, Value.int IntKind.i64 0, Value.int IntKind.i64 0, Value.int IntKind.i64 0, Value.int IntKind.i64 0] 72)) [(w.heap.size + 1, tZ), (w.heap.size, (twR (x) (y)))]) := (((Kn.nil w).al (twR (x) (y)) 72 rfl).al tZ 72 (by simp))
  have b0 : Hid (Below w.heap.size w ((w.alloc (.cells (twR (x) (y)).toArray 72)).alloc (.cells #[Value.int IntKind.i64 0, Value.int IntKind.i64 0, Value.int IntKind.i64 0, Value.int IntKind.i64 0, Value.int IntKind.i64 0, Value.int IntKind.i64 0, Value.int IntKind.i64 0, Value.int IntKind.i64 0, Value.int IntKind.i64 0, Value.int IntKind.i64 0, Value.int IntKind.i64 0, Value.int IntKind.i64 0, Value.int IntKind.i64 0, Value.int IntKind.i64 0, Value.int IntKind.i64 0, Value.int IntKind.i64 0, Value.int IntKind.i64 0, Value.int IntKind.i64 0, Value.int IntKind.i64 0, Value.int IntKind.i64 0, Value.int IntKind.i64 0, Value.int IntKind.i64 0, Value.int IntKind.i64 0, Value.int IntKind.i64 0, Value.int IntKind.i64 0, Value.int IntKind.i64 0, Value.int IntKind.i64 0, Value.int IntKind.i64 0, Value.int IntKind.i64 0, Value.int IntKind.i64 0, Value.int IntKind.i64 0, Value.int IntKind.i64 0] 72))) := (((Below.refl _ _).alloc (Nat.le_refl _) _).alloc (by simp <;> omega) _)
  go_wp2_with (first | simp only [zero_t2])
  refine wp_region_vars3 15 (.cells #[Value.int IntKind.i64 0, Value.int IntKind.i64 0, Value.int IntKind.i64 0, Value.int IntKind.i64 0, Value.int IntKind.i64 0, Value.int IntKind.i64 0, Value.int IntKind.i64 0, Value.int IntKind.i64 0, Value.int IntKind.i64 0, Value.int IntKind.i64 0, Value.int IntKind.i64 0, Value.int IntKind.i64 0, Value.int IntKind.i64 0, Value.int IntKind.i64 0, Value.int IntKind.i64 0, Value.int IntKind.i64 0] 70) (.cells #[Value.int IntKind.i64 0, Value.int IntKind.i64 0, Value.int IntKind.i64 0, Value.int IntKind.i64 0, Value.int IntKind.i64 0, Value.int IntKind.i64 0, Value.int IntKind.i64 0, Value.int IntKind.i64 0, Value.int IntKind.i64 0, Value.int IntKind.i64 0, Value.int IntKind.i64 0, Value.int IntKind.i64 0, Value.int IntKind.i64 0, Value.int IntKind.i64 0, Value.int IntKind.i64 0, Value.int IntKind.i64 0] 70) (.cells #[Value.int IntKind.i64 0, Value.int IntKind.i64 0, Value.int IntKind.i64 0, Value.int IntKind.i64 0, Value.int IntKind.i64 0, Value.int IntKind.i64 0, Value.int IntKind.i64 0, Value.int IntKind.i64 0, Value.int IntKind.i64 0, Value.int IntKind.i64 0, Value.int IntKind.i64 0, Value.int IntKind.i64 0, Value.int IntKind.i64 0, Value.int IntKind.i64 0, Value.int IntKind.i64 0, Value.int IntKind.i64 0] 70) (.cells (fR (xx)).toArray 70) (.cells (fR (zz)).toArray 70) (.cells (fR (xz)).toArray 70) (by kernel_rfl) (by kernel_rfl) (by kernel_rfl) (by kernel_rfl) rfl rfl rfl rfl rfl rfl (by decide) rfl rfl rfl (fun _ _ => by kernel_rfl) (fun _ _ => by kernel_rfl) (fun _ _ => by kernel_rfl) ?_
  apply Exists.intro
  refine ⟨fun U hU f hf hcl => ?_, fun k j i W hc => ?_, fun k j i W hc => ?_, fun k j i W hc => ?_, fun k1 j1 i1 w1 hb1 hk1 hj1 hi1 hn1 hc1 hd1 he1 => ?_⟩
  · skip
    have ra_q_0 := fun nx => (Kn.rng (s0.out.up (hf nx).out) 1 rfl : (f nx).rangeAt (w.heap.size) 0 (twR (x) (y)))
    have ra_q_1 := fun nx => (Kn.tng0 (s0.out.up (hf nx).out) 1 rfl : (f nx).rangeAt (w.heap.size) 0 (fR (x)))
    have ra_q_2 := fun nx => (Kn.tng1 (s0.out.up (hf nx).out) 1 rfl : (f nx).rangeAt (w.heap.size) 16 (fR (y)))
    clear hf
    simp only [List.take_succ_cons, List.take_zero]
    repeat (first | (refine I.quiet_load rfl 72 _ rfl (w.heap.size) 0 rfl (twR (x) (y)) _ (fun W hW => by obtain ⟨nx, rfl⟩ := hW; exact ra_q_0 nx) Try.underlying72 rfl (info_twR (x) (y)) ?_; simp only [Act.put, List.setIfInBounds_toArray, List.set_cons_succ, List.set_cons_zero]) | (refine I.quiet_load rfl 70 _ rfl (w.heap.size) 0 rfl (fR (x)) _ (fun W hW => by obtain ⟨nx, rfl⟩ := hW; exact ra_q_1 nx) Try.underlying70 rfl (info_fR (x)) ?_; simp only [Act.put, List.setIfInBounds_toArray, List.set_cons_succ, List.set_cons_zero]) | (refine I.quiet_load rfl 70 _ rfl (w.heap.size) 16 rfl (fR (y)) _ (fun W hW => by obtain ⟨nx, rfl⟩ := hW; exact ra_q_2 nx) Try.underlying70 rfl (info_fR (y)) ?_; simp only [Act.put, List.setIfInBounds_toArray, List.set_cons_succ, List.set_cons_zero]) | go_big_quiet_step (first | (go_at_call_of 53 [Value.agg (fR (x)).toArray, Value.agg (fR (x)).toArray]; exact (M1 _).mono fun e w'' ⟨he, hb⟩ => ⟨he, hcl.out _ _ hb⟩) | (go_at_call_of 53 [Value.agg (fR (y)).toArray, Value.agg (fR (y)).toArray]; exact (M2 _).mono fun e w'' ⟨he, hb⟩ => ⟨he, hcl.out _ _ hb⟩) | (go_at_call_of 53 [Value.agg (fR (x)).toArray, Value.agg (fR (y)).toArray]; exact (M3 _).mono fun e w'' ⟨he, hb⟩ => ⟨he, hcl.out _ _ hb⟩)))
    exact wpQuiet_nil rfl
  · exact st_obj (zs := fZ) (cs := (fR (xx))) hc.out rfl rfl rfl (by rw [(fR_length (xx)), fZ_length]) (info_fR (xx)) (I.one_dI _)
  · exact st_obj (zs := fZ) (cs := (fR (zz))) hc.out rfl rfl rfl (by rw [(fR_length (zz)), fZ_length]) (info_fR (zz)) (I.one_dI _)
  · exact st_obj (zs := fZ) (cs := (fR (xz))) hc.out rfl rfl rfl (by rw [(fR_length (xz)), fZ_length]) (info_fR (xz)) (I.one_dI _)
  simp only [Act.put, List.setIfInBounds_toArray, List.set_cons_succ, List.set_cons_zero]
  have z1 := b0.out.size
  have g1 : w.heap.size ≤ k1 := Nat.le_trans b0.out.size hk1
  have gj1 : w.heap.size ≤ j1 := Nat.le_trans b0.out.size hj1
  have gi1 : w.heap.size ≤ i1 := Nat.le_trans b0.out.size hi1
  have s1 : Hid (Kn w1 [(k1, (fR (xx))), (j1, (fR (zz))), (i1, (fR (xz))), (w.heap.size + 1, tZ), (w.heap.size, (twR (x) (y)))]) := s0.out.three hb1.out hk1 hj1 hi1 hn1.out hc1.out hd1.out he1.out
  have b1 : Hid (Below w.heap.size w w1) := b0.out.trans (hb1.out.mono b0.out.size)
  clear s0 b0 hb1 hc1 hd1 he1 hk1 hj1 hi1
  go_wp2_with (first | refine wp_ldW rfl 70 _ rfl k1 0 rfl (fR (xx)) _ (Kn.rng s1.out 0 rfl) Try.underlying70 rfl (info_fR (xx)) ?_ | refine wp_ldW rfl 70 _ rfl j1 0 rfl (fR (zz)) _ (Kn.rng s1.out 1 rfl) Try.underlying70 rfl (info_fR (zz)) ?_)
  refine (L1 _).mono ?_
  rintro e w2 ⟨rfl, hb2⟩
  have s2 : Hid (Kn w2 [(k1, (fR (xx))), (j1, (fR (zz))), (i1, (fR (xz))), (w.heap.size + 1, tZ), (w.heap.size, (twR (x) (y)))]) := s1.out.up hb2
  have b2 : Hid (Below w.heap.size w w2) := b1.out.trans (hb2.mono b1.out.size)
  have z2 := b2.out.size
  clear hb2 s1 b1
  have s3x : Hid (Kn (w2.alloc (.cells #[Value.int IntKind.i64 0, Value.int IntKind.i64 0, Value.int IntKind.i64 0, Value.int IntKind.i64 0, Value.int IntKind.i64 0, Value.int IntKind.i64 0, Value.int IntKind.i64 0, Value.int IntKind.i64 0, Value.int IntKind.i64 0, Value.int IntKind.i64 0, Value.int IntKind.i64 0, Value.int IntKind.i64 0, Value.int IntKind.i64 0, Value.int IntKind.i64 0, Value.int IntKind.i64 0, Value.int IntKind.i64 0] 70)) [(w2.heap.size, fZ), (k1, (fR (xx))), (j1, (fR (zz))), (i1, (fR (xz))), (w.heap.size + 1, tZ), (w.heap.size, (twR (x) (y)))]) := s2.out.al fZ 70 rfl
  have b3x : Hid (Below w.heap.size w (w2.alloc (.cells #[Value.int IntKind.i64 0, Value.int IntKind.i64 0, Value.int IntKind.i64 0, Value.int IntKind.i64 0, Value.int IntKind.i64 0, Value.int IntKind.i64 0, Value.int IntKind.i64 0, Value.int IntKind.i64 0, Value.int IntKind.i64 0, Value.int IntKind.i64 0, Value.int IntKind.i64 0, Value.int IntKind.i64 0, Value.int IntKind.i64 0, Value.int IntKind.i64 0, Value.int IntKind.i64 0, Value.int IntKind.i64 0] 70))) := b2.out.alloc b2.out.size _
  have g3 : w.heap.size ≤ w2.heap.size := b2.out.size
  have TT3 : Hid ((w2.alloc (.cells #[Value.int IntKind.i64 0, Value.int IntKind.i64 0, Value.int IntKind.i64 0, Value.int IntKind.i64 0, Value.int IntKind.i64 0, Value.int IntKind.i64 0, Value.int IntKind.i64 0, Value.int IntKind.i64 0, Value.int IntKind.i64 0, Value.int IntKind.i64 0, Value.int IntKind.i64 0, Value.int IntKind.i64 0, Value.int IntKind.i64 0, Value.int IntKind.i64 0, Value.int IntKind.i64 0, Value.int IntKind.i64 0] 70)).there (w2.heap.size) 0 (fR (dd)).length) := Kn.there s3x.out 0 rfl (by rw [(fR_length (dd)), fZ_length])
  go_wp2_with (first | simp only [I.zero_fe] | refine I.wp_store_eq rfl 70 _ _ rfl (w2.heap.size) 0 (fR (dd)) rfl rfl TT3.out (info_fR (dd)) (I.one_dI _) ?_)
  intro w3 hw3
  try simp only [Act.put, List.setIfInBounds_toArray, List.set_cons_succ, List.set_cons_zero]
  have s3 : Hid (Kn w3 [(w2.heap.size, (fR (dd))), (k1, (fR (xx))), (j1, (fR (zz))), (i1, (fR (xz))), (w.heap.size + 1, tZ), (w.heap.size, (twR (x) (y)))]) := by rw [hw3.out]; exact Kn.put s3x.out (by rw [(fR_length (dd)), fZ_length])
  have b3 : Hid (Below w.heap.size w w3) := by rw [hw3.out]; exact I.below_setCells _ _ _ b3x.out g3
  have z3 := b3.out.size
  clear hw3 s3x b3x TT3 s2 b2
  go_wp2_with fail
  have G3 : Hid _ := s3
  refine wp_region_monoSE 10 [MP.eq (.agg (fR xx).toArray), MP.v1 486662, MP.sl (P.dg A), MP.eq (.agg (fR A).toArray), MP.eq (.agg (fR xz).toArray), MP.eq (.agg (fR am).toArray), MP.eq (.agg (fR ap).toArray), MP.eq (.agg (fR zz).toArray), MP.eq (.agg (fR sm).toArray), MP.made w3.heap.size fZ] (by kernel_rfl) (by kernel_rfl) rfl (by decide) (by kernel_rfl) ?_
  apply Exists.intro
  refine ⟨fun vals => ?_, ?_, fun vals4 w4 hb4 hF hO => ?_⟩
  · simp only [putsV, dstL, List.length_cons, List.length_nil, Nat.zero_add, Nat.reduceAdd, List.getElem?_cons_zero, List.getElem?_cons_succ, Option.bind_some, Act.put, List.setIfInBounds_toArray, List.set_cons_succ, List.set_cons_zero]
    rfl
  · refine ⟨?_, ?_, ?_, ?_, ?_, ?_, ?_, ?_, ?_, ?_, trivial⟩
    · intro vals W hW hw hd
      try simp [Region.binds] at hd
      refine ⟨by first | rfl | simp [Region.wanted, yielded, hd], ?_⟩
      exact I.yields_ld 70 (.tmp 3) rfl k1 0 rfl (fR xx) _ (Kn.rng (G3.out.up hW.out) 1 rfl) I.u_fe rfl (info_fR xx) rfl
    · intro vals W hW hw hd
      try simp [Region.binds] at hd
      refine ⟨by first | rfl | simp [Region.wanted, yielded, hd], ?_⟩
      exact yields_v1 rfl
    · intro vals W hW hw hd
      try simp [Region.binds] at hd
      refine ⟨by first | rfl | simp [Region.wanted, yielded, hd], ?_⟩
      exact yields_call1 cfDig (.tmp 27) _ rfl _ rfl ((DG.out _ W hd).mono fun e w' ⟨⟨v, he, h⟩, hb⟩ => ⟨v, he, h, hb⟩)
    · intro vals W hW hw hd
      try simp [Region.binds] at hd
      refine ⟨by first | rfl | simp [Region.wanted, yielded, hd], ?_⟩
      exact yields_call1 cfFeo (.tmp 28) _ rfl _ rfl ((FO.out _ W hd).mono fun e w' ⟨he, hb⟩ => ⟨_, he, rfl, hb⟩)
    · intro vals W hW hw hd
      try simp [Region.binds] at hd
      refine ⟨by first | rfl | simp [Region.wanted, yielded, hd], ?_⟩
      exact I.yields_ld 70 (.tmp 5) rfl i1 0 rfl (fR xz) _ (Kn.rng (G3.out.up hW.out) 3 rfl) I.u_fe rfl (info_fR xz) rfl
    · intro vals W hW hw hd
      try simp [Region.binds] at hd
      refine ⟨by first | rfl | simp [Region.wanted, yielded, hd], ?_⟩
      exact yields_call2 cfBy (.tmp 29) (.tmp 30) _ rfl _ _ hd.1 hd.2.1 ((A1 W).mono fun e w' ⟨he, hb⟩ => ⟨_, he, rfl, hb⟩)
    · intro vals W hW hw hd
      try simp [Region.binds] at hd
      refine ⟨by first | rfl | simp [Region.wanted, yielded, hd], ?_⟩
      exact yields_call2 cfPlus (.tmp 26) (.tmp 31) _ rfl _ _ hd.1 hd.2 ((A2 W).mono fun e w' ⟨he, hb⟩ => ⟨_, he, rfl, hb⟩)
    · intro vals W hW hw hd
      try simp [Region.binds] at hd
      refine ⟨by first | rfl | simp [Region.wanted, yielded, hd], ?_⟩
      exact I.yields_ld 70 (.tmp 4) rfl j1 0 rfl (fR zz) _ (Kn.rng (G3.out.up hW.out) 2 rfl) I.u_fe rfl (info_fR zz) rfl
    · intro vals W hW hw hd
      try simp [Region.binds] at hd
      refine ⟨by first | rfl | simp [Region.wanted, yielded, hd], ?_⟩
      exact yields_call2 cfPlus (.tmp 32) (.tmp 33) _ rfl _ _ hd.1 hd.2.1 ((A3 W).mono fun e w' ⟨he, hb⟩ => ⟨_, he, rfl, hb⟩)
    · intro vals W hW hw hd
      try simp [Region.binds] at hd
      refine ⟨by first | rfl | simp [Region.wanted, yielded, hd], ?_⟩
      exact yields_mk rfl I.zero_fe hW.out.size
  obtain ⟨f0, f1, f2, f3, f4, f5, f6, f7, f8, f9, _⟩ := hF
  simp only [MP.eq_p] at f0 f3 f4 f5 f6 f7 f8
  obtain ⟨g, eg, hg, bg⟩ := f9
  rw [f0, f3, f4, f5, f6, f7, f8, eg]
  simp only [List.drop_succ_cons, List.drop_zero]
  have s4 : Hid (Kn w4 [(g, fZ), (w2.heap.size, fR dd), (k1, fR xx), (j1, fR zz), (i1, fR xz), (w.heap.size + 1, tZ), (w.heap.size, twR x y)]) := s3.out.fresh_of hb4.out hg bg
  have b4 : Hid (Below w.heap.size w w4) := b3.out.trans (hb4.out.mono b3.out.size)
  have gg : w.heap.size ≤ g := Nat.le_trans b3.out.size hg
  clear f0 f1 f2 f3 f4 f5 f6 f7 f8 eg hg bg hO hb4 s3 b3 G3
  have s5x : Hid (Kn w4 [(g, fZ), (w2.heap.size, (fR (dd))), (k1, (fR (xx))), (j1, (fR (zz))), (i1, (fR (xz))), (w.heap.size + 1, tZ), (w.heap.size, (twR (x) (y)))]) := s4.out.front 0 rfl
  have b5x : Hid (Below w.heap.size w w4) := b4.out
  have TT5 : Hid (w4.there g 0 (fR (sm)).length) := Kn.there s5x.out 0 rfl (by rw [(fR_length (sm)), fZ_length])
  go_wp2_with (first | refine I.wp_store_eq rfl 70 _ _ rfl g 0 (fR (sm)) rfl rfl TT5.out (info_fR (sm)) (I.one_dI _) ?_)
  intro w5 hw5
  try simp only [Act.put, List.setIfInBounds_toArray, List.set_cons_succ, List.set_cons_zero]
  have s5 : Hid (Kn w5 [(g, (fR (sm))), (w2.heap.size, (fR (dd))), (k1, (fR (xx))), (j1, (fR (zz))), (i1, (fR (xz))), (w.heap.size + 1, tZ), (w.heap.size, (twR (x) (y)))]) := by rw [hw5.out]; exact Kn.put s5x.out (by rw [(fR_length (sm)), fZ_length])
  have b5 : Hid (Below w.heap.size w w5) := by rw [hw5.out]; exact I.below_setCells _ _ _ b5x.out (by omega)
  have z5 := b5.out.size
  clear hw5 s5x b5x TT5 s4 b4
  go_wp2_with fail
  refine wp_region_up_then 9 (by kernel_rfl) (by kernel_rfl) (by kernel_rfl) (by kernel_rfl) (by decide) (fun _ _ d _ _ h => by cases d <;> exact h) (fun U hU f hf hcl => ?_)
  have ra_d_0 := fun nx => (Kn.rng (s5.out.up (hf nx).out) 1 rfl : (f nx).rangeAt (w2.heap.size) 0 (fR (dd)))
  have ra_xz_0 := fun nx => (Kn.rng (s5.out.up (hf nx).out) 4 rfl : (f nx).rangeAt i1 0 (fR (xz)))
  have ra_sum_0 := fun nx => (Kn.rng (s5.out.up (hf nx).out) 0 rfl : (f nx).rangeAt g 0 (fR (sm)))
  simp only [List.take_succ_cons, List.take_zero, List.drop_succ_cons, List.drop_zero]
  repeat (first | (refine quiet_buildT rfl 72 _ _ rfl (.agg (fR da).toArray) (.agg (fR rm).toArray) (twR da rm) rfl rfl (t2_built da rm) ?_; simp only [Act.put, List.setIfInBounds_toArray, List.set_cons_succ, List.set_cons_zero]) | (refine I.quiet_load rfl 70 _ rfl (w2.heap.size) 0 rfl (fR (dd)) _ (fun W hW => by obtain ⟨nx, rfl⟩ := hW; exact ra_d_0 nx) Try.underlying70 rfl (info_fR (dd)) ?_; simp only [Act.put, List.setIfInBounds_toArray, List.set_cons_succ, List.set_cons_zero]) | (refine I.quiet_load rfl 70 _ rfl i1 0 rfl (fR (xz)) _ (fun W hW => by obtain ⟨nx, rfl⟩ := hW; exact ra_xz_0 nx) Try.underlying70 rfl (info_fR (xz)) ?_; simp only [Act.put, List.setIfInBounds_toArray, List.set_cons_succ, List.set_cons_zero]) | (refine I.quiet_load rfl 70 _ rfl g 0 rfl (fR (sm)) _ (fun W hW => by obtain ⟨nx, rfl⟩ := hW; exact ra_sum_0 nx) Try.underlying70 rfl (info_fR (sm)) ?_; simp only [Act.put, List.setIfInBounds_toArray, List.set_cons_succ, List.set_cons_zero]) | go_big_quiet_step (first | (go_at_call_of 53 [Value.agg (fR (dd)).toArray, Value.agg (fR (dd)).toArray]; exact (D1 _).mono fun e w'' ⟨he, hb⟩ => ⟨he, hcl.out _ _ hb⟩) | (go_at_call 80; exact (S4 _).mono fun e w'' ⟨he, hb⟩ => ⟨he, hcl.out _ _ hb⟩) | (go_at_call_of 53 [Value.agg (fR (4)).toArray, Value.agg (fR (xz)).toArray]; exact (D2 _).mono fun e w'' ⟨he, hb⟩ => ⟨he, hcl.out _ _ hb⟩) | (go_at_call_of 53 [Value.agg (fR (fm)).toArray, Value.agg (fR (sm)).toArray]; exact (D3 _).mono fun e w'' ⟨he, hb⟩ => ⟨he, hcl.out _ _ hb⟩)))
  refine wpQuiet_nil ?_
  intro nx
  have hb6 := (hf nx).out
  clear hf hcl
  generalize f nx = w6 at hb6 ⊢
  have s6 : Hid (Kn w6 [(g, (fR (sm))), (w2.heap.size, (fR (dd))), (k1, (fR (xx))), (j1, (fR (zz))), (i1, (fR (xz))), (w.heap.size + 1, tZ), (w.heap.size, (twR (x) (y)))]) := s5.out.up hb6
  have b6 : Hid (Below w.heap.size w w6) := b5.out.trans (hb6.mono b5.out.size)
  have z6 := b6.out.size
  clear hb6 s5 b5
  have s7x : Hid (Kn w6 [(w.heap.size + 1, tZ), (g, (fR (sm))), (w2.heap.size, (fR (dd))), (k1, (fR (xx))), (j1, (fR (zz))), (i1, (fR (xz))), (w.heap.size, (twR (x) (y)))]) := s6.out.front 5 rfl
  have b7x : Hid (Below w.heap.size w w6) := b6.out
  have TT7 : Hid (w6.there (w.heap.size + 1) 0 (twR (da) (rm)).length) := Kn.there s7x.out 0 rfl (by rw [(twR_length (da) (rm)), tZ_length])
  go_wp2_with (first | refine I.wp_store_eq rfl 72 _ _ rfl (w.heap.size + 1) 0 (twR (da) (rm)) rfl rfl TT7.out (info_twR (da) (rm)) (twR_one (da) (rm)) ?_)
  intro w7 hw7
  try simp only [Act.put, List.setIfInBounds_toArray, List.set_cons_succ, List.set_cons_zero]
  have s7 : Hid (Kn w7 [(w.heap.size + 1, (twR (da) (rm))), (g, (fR (sm))), (w2.heap.size, (fR (dd))), (k1, (fR (xx))), (j1, (fR (zz))), (i1, (fR (xz))), (w.heap.size, (twR (x) (y)))]) := by rw [hw7.out]; exact Kn.put s7x.out (by rw [(twR_length (da) (rm)), tZ_length])
  have b7 : Hid (Below w.heap.size w w7) := by rw [hw7.out]; exact I.below_setCells _ _ _ b7x.out (by omega)
  have z7 := b7.out.size
  clear hw7 s7x b7x TT7 s6 b6
  go_wp2_with fail
  exact bodyPost_ret (v := twV da rm) (I.results_cell (b := w.heap.size + 1) rfl rfl (Kn.rng s7.out 0 rfl) Try.underlying72 rfl (info_twR (da) (rm))) rfl ⟨rfl, b7.out⟩
theorem double_n (q : Nat × Nat) (h1 : q.1 < F.p) (h2 : q.2 < F.p) (w : World) : Calls Try.prog 82 #[twV q.1 q.2] w fun e w' => e = .returned (twV (Cv.dbl q).1 (Cv.dbl q).2) ∧ Below w.heap.size w w' := by
  have m := F.mul_lt; have a := F.add_lt; have b := F.sub_lt
  exact double_walk 486662 _ _ _ _ _ _ _ _ _ _ _ _ dg_486 (fun v W sv => I.feOf_fe 486662 v W sv) (I.by_fe _ _ h1 h1) (I.by_fe _ _ h2 h2) (I.by_fe _ _ h1 h2) (I.less_fe _ _ (m _ _) (m _ _)) (I.by_fe _ _ (by decide) (m _ _)) (I.plus_fe _ _ (m _ _) (m _ _)) (I.plus_fe _ _ (a _ _) (m _ _)) (I.by_fe _ _ (b _ _) (b _ _)) (I.small_fe 4 (by decide)) (I.by_fe _ _ (by decide) (m _ _)) (I.by_fe _ _ (m _ _) (a _ _)) w
end Go.Proofs.Ytpnfopakkaoibaa
