/- The contracts of a ring's methods, by the numbers that they answer. -/
import Derived.Test.YtkgfeacednomfaaRingF
import Derived.Test.YtkgfeacednomfaaRMath
namespace Go.Proofs.Ytkgfeacednomfaa
open Go.RowKit
/-- A ring that New has made: m is odd and not 1, and iv is what m has as its inverse modulo 2^256. -/
structure RingOK (m iv : Nm) : Prop where
  om : m.ok
  oi : iv.ok
  odd : m.nat % 2 = 1
  big : 1 < m.nat
  inv : m.nat * iv.nat % 2 ^ 256 = 1
abbrev Rg (w : World) (k : Nat) (m iv : Nm) : Prop := RingAt w k m iv (nm (2 ^ 256 % m.nat)) (nm (2 ^ 256 * 2 ^ 256 % m.nat))
theorem zero_ok' : (⟨0, 0, 0, 0⟩ : Nm).ok := by constructor <;> (constructor <;> decide)
theorem nm_ok (n : Nat) : (nm n).ok := Nm.of_ok _
theorem nm_nat {n : Nat} (h : n < 2 ^ 256) : (nm n).nat = n := Nm.of_nat h
theorem Nm.eq_nm {x : Nm} {n : Nat} (h : x.ok) (e : x.nat = n) : x = nm n := by rw [← e]; exact Nm.eq_of_nat h
theorem WL_nm (n : Nat) : WL n = nm (n % 2 ^ 256) := by
  unfold WL nm
  rw [M_cast, ← Int.natCast_emod]
theorem WH_nm (n : Nat) : WH n = nm (n / 2 ^ 256) := by
  unfold WH nm
  rw [M_cast, ← Int.natCast_ediv]
theorem mod_ok {m : Nm} (om : m.ok) (h : 0 < m.nat) (n : Nat) : n % m.nat < 2 ^ 256 := Nat.lt_trans (Nat.mod_lt _ h) (Nm.nat_lt om)
theorem less_num {a b m : Nm} (oa : a.ok) (ob : b.ok) (om : m.ok) (ha : a.nat < m.nat) (hb : b.nat ≤ m.nat) : pick (subC a b) (subS a b) (addS (subS a b) m) = nm ((a.nat + m.nat - b.nat) % m.nat) := by
  have A := Nm.nat_cast oa; have Bb := Nm.nat_cast ob; have Mm := Nm.nat_cast om
  have l1 := Nm.nat_lt oa; have l2 := Nm.nat_lt ob; have l3 := Nm.nat_lt om
  unfold pick subC addS subS M
  rw [← A, ← Bb, ← Mm]
  have p2 : (2 : Nat) ^ 256 = 115792089237316195423570985008687907853269984665640564039457584007913129639936 := by decide
  rw [p2] at l1 l2 l3
  by_cases h : b.nat ≤ a.nat
  · have e : (((a.nat : Nat) : Int) - (b.nat : Int)) / 115792089237316195423570985008687907853269984665640564039457584007913129639936 = 0 := by omega
    rw [e, if_pos (by decide)]
    have e2 : (a.nat + m.nat - b.nat) % m.nat = a.nat - b.nat := by
      rw [show a.nat + m.nat - b.nat = (a.nat - b.nat) + m.nat by omega, Nat.add_mod_right, Nat.mod_eq_of_lt (by omega)]
    rw [e2, nm]
    congr 1
    omega
  · have e : (((a.nat : Nat) : Int) - (b.nat : Int)) / 115792089237316195423570985008687907853269984665640564039457584007913129639936 = -1 := by omega
    rw [e, if_neg (by decide)]
    have e2 : (a.nat + m.nat - b.nat) % m.nat = a.nat + m.nat - b.nat := Nat.mod_eq_of_lt (by omega)
    rw [e2, nm]
    rw [Nm.of_val (n := (((a.nat : Nat) : Int) - (b.nat : Int)) % 115792089237316195423570985008687907853269984665640564039457584007913129639936) (by omega) (by unfold M; omega)]
    congr 1
    omega
theorem subC_word {x y : Nm} (hx : x.ok) (hy : y.ok) : Word (subC x y) := by
  have h0 := Nm.val_nonneg hx; have h1 := Nm.val_lt hx; have h2 := Nm.val_nonneg hy; have h3 := Nm.val_lt hy
  unfold subC Word M at *
  omega
theorem subS_ok (x y : Nm) : (subS x y).ok := Nm.of_ok _
section
variable {k : Nat} {m iv : Nm}
theorem less_fun (R : RingOK m iv) (on tw a b : Nm) (oa : a.ok) (ob : b.ok) (ha : a.nat < m.nat) (hb : b.nat ≤ m.nat) (w : World) (hR : RingAt w k m iv on tw) :
    Calls Try.prog 70 #[rp k, N a, N b] w fun e w' => e = .returned (N (nm ((a.nat + m.nat - b.nat) % m.nat))) ∧ Below w.heap.size w w' := by
  rw [← less_num oa ob R.om ha hb]
  exact less_walk k m iv on tw a b _ _ _ _ _ (sub_fun a b oa ob) (add_fun _ m (subS_ok a b) R.om) (pick_fun _ _ _ (subC_word oa ob) (subS_ok a b) (addS_ok _ _)) w hR
theorem fold_fun (R : RingOK m iv) (on tw l h : Nm) (ol : l.ok) (oh : h.ok) (hh : h.nat < m.nat) (w : World) (hR : RingAt w k m iv on tw) :
    Calls Try.prog 71 #[rp k, Wv l h] w fun e w' => e = .returned (N (nm (P.out m.nat (V l h)))) ∧ Below w.heap.size w w' := by
  have F := P.fold_math R.odd R.inv (Nm.nat_lt ol) hh
  have SM := mul_V l iv ol R.oi
  have SN := mul_V (WL (l.nat * iv.nat)) m (WL_ok _) R.om
  have e1 : (WL (l.nat * iv.nat)).nat = l.nat * iv.nat % 2 ^ 256 := by rw [WL_nm, nm_nat (Nat.mod_lt _ (Nat.pow_pos (by decide)))]
  have e2 : (WH ((WL (l.nat * iv.nat)).nat * m.nat)).nat = l.nat * iv.nat % 2 ^ 256 * m.nat / 2 ^ 256 := by
    rw [WH_nm, e1, nm_nat (Nat.lt_trans F.1 (Nm.nat_lt R.om))]
  rw [V_nat ol oh, ← F.2, ← e2]
  exact fold_walk k m iv on tw l h _ _ _ _ _ SM SN (fun w hR => less_fun R on tw h _ oh (WH_ok _) hh (by rw [e2]; omega) w hR) w hR
theorem mul_hi {a b m : Nm} (oa : a.ok) (h : b.nat < m.nat) : (WH (a.nat * b.nat)).nat < m.nat ∨ m.nat = 0 := by
  by_cases hm : m.nat = 0
  · exact .inr hm
  · refine .inl ?_
    have l1 := Nm.nat_lt oa
    have : a.nat * b.nat / 2 ^ 256 < m.nat := by
      rw [Nat.div_lt_iff_lt_mul (Nat.pow_pos (by decide))]
      refine Nat.lt_of_le_of_lt (Nat.mul_le_mul_right b.nat (Nat.le_of_lt l1)) ?_
      rw [Nat.mul_comm]
      exact Nat.mul_lt_mul_of_pos_right h (Nat.pow_pos (by decide))
    rcases Nat.lt_or_ge (a.nat * b.nat / 2 ^ 256) (2 ^ 256) with h' | h'
    · rw [WH_nm, nm_nat h']; exact this
    · have e : (WH (a.nat * b.nat)).nat ≤ a.nat * b.nat / 2 ^ 256 := Nat.le_of_lt (Nat.lt_of_lt_of_le (Nm.nat_lt (WH_ok _)) h')
      omega
/-- fold, of a product of any number and one below m. -/
theorem foldMul_fun (R : RingOK m iv) (on tw a b : Nm) (oa : a.ok) (ob : b.ok) (hb : b.nat < m.nat) (w : World) (hR : RingAt w k m iv on tw) :
    Calls Try.prog 71 #[rp k, Wv (WL (a.nat * b.nat)) (WH (a.nat * b.nat))] w fun e w' => e = .returned (N (nm (P.out m.nat (a.nat * b.nat)))) ∧ Below w.heap.size w w' := by
  have h1 := R.big
  have := fold_fun (k := k) R on tw (WL (a.nat * b.nat)) (WH (a.nat * b.nat)) (WL_ok _) (WH_ok _) ((mul_hi oa hb).resolve_right (by omega)) w hR
  rw [V_of (mul_lt512 oa ob)] at this
  exact this
theorem foldOne_fun (R : RingOK m iv) (on tw a : Nm) (oa : a.ok) (w : World) (hR : RingAt w k m iv on tw) :
    Calls Try.prog 71 #[rp k, Wv a ⟨0, 0, 0, 0⟩] w fun e w' => e = .returned (N (nm (P.out m.nat a.nat))) ∧ Below w.heap.size w w' := by
  have h1 := R.big
  have := fold_fun (k := k) R on tw a ⟨0, 0, 0, 0⟩ oa zero_ok' (by show 0 < m.nat; omega) w hR
  rw [V_wide] at this
  exact this
theorem two512 (R : RingOK m iv) (a : Nat) : P.out m.nat (a * (2 ^ 256 * 2 ^ 256 % m.nat)) = a * 2 ^ 256 % m.nat := by
  rw [← P.out_mod, Nat.mul_mod, Nat.mod_mod, ← Nat.mul_mod, P.out_mod, ← Nat.mul_assoc, P.out_in R.odd]
theorem in_fun (R : RingOK m iv) (a : Nm) (oa : a.ok) (w : World) (hR : Rg w k m iv) :
    Calls Try.prog 37 #[rp k, N a] w fun e w' => e = .returned (N (nm (a.nat * 2 ^ 256 % m.nat))) ∧ Below w.heap.size w w' := by
  have hm : 0 < m.nat := by have := R.big; omega
  have e : (nm (2 ^ 256 * 2 ^ 256 % m.nat)).nat = 2 ^ 256 * 2 ^ 256 % m.nat := nm_nat (mod_ok R.om hm _)
  have F := fun w hR => foldMul_fun (k := k) R (nm (2 ^ 256 % m.nat)) (nm (2 ^ 256 * 2 ^ 256 % m.nat)) a (nm (2 ^ 256 * 2 ^ 256 % m.nat)) oa (nm_ok _) (by rw [e]; exact Nat.mod_lt _ hm) w hR
  have e3 : P.out m.nat (a.nat * (nm (2 ^ 256 * 2 ^ 256 % m.nat)).nat) = a.nat * 2 ^ 256 % m.nat := by rw [e, two512 R]
  rw [e3] at F
  exact in_walk k m iv _ _ a _ _ _ (mul_V a _ oa (nm_ok _)) F w hR
theorem below_fun (R : RingOK m iv) (a : Nm) (oa : a.ok) (w : World) (hR : Rg w k m iv) :
    Calls Try.prog 69 #[rp k, N a] w fun e w' => e = .returned (N (nm (a.nat % m.nat))) ∧ Below w.heap.size w w' := by
  have hm : 0 < m.nat := by have := R.big; omega
  by_cases h : a.nat < m.nat
  · rw [Nat.mod_eq_of_lt h, ← Nm.eq_nm oa rfl]
    refine below_lt k m iv _ _ a _ ?_ (cmp_fun a m oa R.om) w hR
    unfold cmpV
    rw [if_pos (by rw [← Nm.nat_cast oa, ← Nm.nat_cast R.om]; exact Int.ofNat_lt.2 h)]
    decide
  · have F := fun w hR => foldOne_fun (k := k) R (nm (2 ^ 256 % m.nat)) (nm (2 ^ 256 * 2 ^ 256 % m.nat)) (nm (a.nat * 2 ^ 256 % m.nat)) (nm_ok _) w hR
    rw [nm_nat (mod_ok R.om hm _), P.out_mod, P.out_in R.odd] at F
    refine below_ge k m iv _ _ a _ _ _ ?_ (cmp_fun a m oa R.om) (in_fun R a oa) F w hR
    unfold cmpV
    rw [if_neg (by rw [← Nm.nat_cast oa, ← Nm.nat_cast R.om]; omega)]
    split <;> decide
theorem ringMul_fun (R : RingOK m iv) (a b : Nm) (oa : a.ok) (ob : b.ok) (w : World) (hR : Rg w k m iv) :
    Calls Try.prog 33 #[rp k, N a, N b] w fun e w' => e = .returned (N (nm (a.nat * b.nat % m.nat))) ∧ Below w.heap.size w w' := by
  have hm : 0 < m.nat := by have := R.big; omega
  have e : (nm (a.nat * 2 ^ 256 % m.nat)).nat = a.nat * 2 ^ 256 % m.nat := nm_nat (mod_ok R.om hm _)
  have F := fun w hR => foldMul_fun (k := k) R (nm (2 ^ 256 % m.nat)) (nm (2 ^ 256 * 2 ^ 256 % m.nat)) b (nm (a.nat * 2 ^ 256 % m.nat)) ob (nm_ok _) (by rw [e]; exact Nat.mod_lt _ hm) w hR
  have e2 : P.out m.nat (b.nat * (nm (a.nat * 2 ^ 256 % m.nat)).nat) = a.nat * b.nat % m.nat := by rw [e, Nat.mul_comm, P.out_mul R.odd]
  rw [e2, Nat.mul_comm b.nat] at F
  exact ringMul_walk k m iv _ _ a b _ _ _ _ (in_fun R a oa) (mul_V _ b (nm_ok _) ob) F w hR
theorem ringAdd_fun (R : RingOK m iv) (a b : Nm) (oa : a.ok) (ob : b.ok) (w : World) (hR : Rg w k m iv) :
    Calls Try.prog 31 #[rp k, N a, N b] w fun e w' => e = .returned (N (nm ((a.nat + b.nat) % m.nat))) ∧ Below w.heap.size w w' := by
  have hm : 0 < m.nat := by have := R.big; omega
  have ea : (nm (a.nat % m.nat)).nat = a.nat % m.nat := nm_nat (mod_ok R.om hm _)
  have eb : (nm (b.nat % m.nat)).nat = b.nat % m.nat := nm_nat (mod_ok R.om hm _)
  have la := Nat.mod_lt a.nat hm
  have lb := Nat.mod_lt b.nat hm
  have ml := Nm.nat_lt R.om
  have ed : (subS m (nm (b.nat % m.nat))).nat = m.nat - b.nat % m.nat := by
    have E : subS m (nm (b.nat % m.nat)) = nm (m.nat - b.nat % m.nat) := by
      unfold subS nm
      rw [← Nm.nat_cast R.om, ← Nm.nat_cast (nm_ok _), eb]
      congr 1
      unfold M
      rw [show (2 : Nat) ^ 256 = 115792089237316195423570985008687907853269984665640564039457584007913129639936 by decide] at ml
      omega
    rw [E, nm_nat (by omega)]
  have L := fun w hR => less_fun (k := k) R (nm (2 ^ 256 % m.nat)) (nm (2 ^ 256 * 2 ^ 256 % m.nat)) (nm (a.nat % m.nat)) (subS m (nm (b.nat % m.nat))) (nm_ok _) (subS_ok _ _) (by rw [ea]; exact la) (by rw [ed]; omega) w hR
  have e : ((nm (a.nat % m.nat)).nat + m.nat - (subS m (nm (b.nat % m.nat))).nat) % m.nat = (a.nat + b.nat) % m.nat := by
    rw [ea, ed, show a.nat % m.nat + m.nat - (m.nat - b.nat % m.nat) = a.nat % m.nat + b.nat % m.nat by omega, ← Nat.add_mod]
  rw [e] at L
  exact ringAdd_walk k m iv _ _ a b _ _ _ _ _ (below_fun R b ob) (below_fun R a oa) (sub_fun m _ R.om (nm_ok _)) L w hR
theorem ringOut_fun (R : RingOK m iv) (l h : Nm) (ol : l.ok) (oh : h.ok) (w : World) (hR : Rg w k m iv) :
    Calls Try.prog 34 #[rp k, Wv l h] w fun e w' => e = .returned (N (nm (P.out m.nat (V l h)))) ∧ Below w.heap.size w w' := by
  have hm : 0 < m.nat := by have := R.big; omega
  have F := fun w hR => foldOne_fun (k := k) R (nm (2 ^ 256 % m.nat)) (nm (2 ^ 256 * 2 ^ 256 % m.nat)) l ol w hR
  have A := ringAdd_fun (k := k) R h (nm (P.out m.nat l.nat)) oh (nm_ok _)
  have e : (h.nat + (nm (P.out m.nat l.nat)).nat) % m.nat = P.out m.nat (V l h) := by
    rw [nm_nat (show P.out m.nat l.nat < 2 ^ 256 from mod_ok R.om hm _)]
    refine P.out_only R.odd (Nat.mod_lt _ hm) ?_
    rw [Nat.mul_mod, Nat.mod_mod, ← Nat.mul_mod, Nat.add_mul, Nat.add_mod, P.out_back R.odd, ← Nat.add_mod, V_nat ol oh, Nat.add_comm, Nat.mul_comm h.nat]
  rw [e] at A
  exact ringOut_walk k m iv _ _ l h _ _ F A w hR
end
end Go.Proofs.Ytkgfeacednomfaa
