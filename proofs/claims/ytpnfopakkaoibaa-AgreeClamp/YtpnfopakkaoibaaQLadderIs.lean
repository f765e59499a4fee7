/- Package ladder, as it landed: its contracts. -/
import Derived.Test.YtpnfopakkaoibaaQLdL
namespace Go.Proofs.Ytpnfopakkaoibaa
open Go.RowKit
set_option linter.unusedSimpArgs false
abbrev l256 : Nat := 2 ^ 256
theorem wMul {a b : Nat} (ha : a < l256) (hb : b < l256) (w : World) : Calls Try.prog 34 #[N (nm a), N (nm b)] w fun e w' => e = .returned (N (nm (F.mul a b))) ∧ Below w.heap.size w w' := by
  have := fMulC (nm a) (nm b) (nm_ok _) (nm_ok _) w
  rwa [nm_nat ha, nm_nat hb] at this
theorem wAdd {a b : Nat} (ha : a < l256) (hb : b < l256) (w : World) : Calls Try.prog 36 #[N (nm a), N (nm b)] w fun e w' => e = .returned (N (nm (F.add a b))) ∧ Below w.heap.size w w' := by
  have := fAddC (nm a) (nm b) (nm_ok _) (nm_ok _) w
  rwa [nm_nat ha, nm_nat hb] at this
theorem wSub {a b : Nat} (ha : a < l256) (hb : b < l256) (w : World) : Calls Try.prog 35 #[N (nm a), N (nm b)] w fun e w' => e = .returned (N (nm (F.sub a b))) ∧ Below w.heap.size w w' := by
  have := fSubC (nm a) (nm b) (nm_ok _) (nm_ok _) w
  rwa [nm_nat ha, nm_nat hb] at this
theorem wInv {a : Nat} (ha : a < l256) (w : World) : Calls Try.prog 47 #[N (nm a)] w fun e w' => e = .returned (N (nm (F.inv a))) ∧ Below w.heap.size w w' := by
  have := fInvC (nm a) (nm_ok _) w
  rwa [nm_nat ha] at this
theorem wSq {a : Nat} (ha : a < l256) (w : World) : Calls Try.prog 71 #[N (nm a)] w fun e w' => e = .returned (N (nm (F.mul a a))) ∧ Below w.heap.size w w' := lsq_walk _ _ (wMul ha ha) w
/-- A pair as Go has it. -/
abbrev lv (t : Nat × Nat) : Value := lV (nm t.1) (nm t.2)
abbrev llt (t : Nat × Nat) : Prop := t.1 < l256 ∧ t.2 < l256
theorem wm (a b : Nat) : F.mul a b < l256 := Nat.lt_trans (F.mul_lt a b) F.p_lt
theorem wa (a b : Nat) : F.add a b < l256 := Nat.lt_trans (F.add_lt a b) F.p_lt
theorem ws (a b : Nat) : F.sub a b < l256 := Nat.lt_trans (F.sub_lt a b) F.p_lt
theorem tw_llt (t : Nat × Nat) : llt (Cv.tw t) := ⟨wm _ _, wm _ _⟩
theorem jn_llt (u : Nat) (q r : Nat × Nat) : llt (Cv.jn u q r) := ⟨wm _ _, wm _ _⟩
theorem ltw_fun {t : Nat × Nat} (h : llt t) (w : World) : Calls Try.prog 44 #[lv t] w fun e w' => e = .returned (lv (Cv.tw t)) ∧ Below w.heap.size w w' := by
  have M2 : ∀ e, e < l256 → ∀ w, Calls Try.prog 34 #[N nS, N (nm e)] w fun e' w' => e' = .returned (N (nm (F.mul 121665 e))) ∧ Below w.heap.size w w' := fun e he => by
    rw [nS_nm]
    exact wMul (by decide) he
  exact ltw_walk _ _ _ _ _ _ _ _ _ _ _ (wAdd h.1 h.2) (wSq (wa _ _)) (wSub h.1 h.2) (wSq (ws _ _)) (wSub (wm _ _) (wm _ _)) (wMul (wm _ _) (wm _ _)) (M2 _ (ws _ _)) (wAdd (wm _ _) (wm _ _)) (wMul (ws _ _) (wa _ _)) w
theorem ljn_fun {u : Nat} (hu : u < l256) {q r : Nat × Nat} (hq : llt q) (hr : llt r) (w : World) : Calls Try.prog 46 #[lv q, lv r, N (nm u)] w fun e w' => e = .returned (lv (Cv.jn u q r)) ∧ Below w.heap.size w w' :=
  ljn_walk _ _ _ _ _ _ _ _ _ _ _ _ _ _ _ _ (wAdd hr.1 hr.2) (wSub hq.1 hq.2) (wMul (wa _ _) (ws _ _)) (wSub hr.1 hr.2) (wAdd hq.1 hq.2) (wMul (ws _ _) (wa _ _)) (wAdd (wm _ _) (wm _ _)) (wSq (wa _ _)) (wSub (wm _ _) (wm _ _)) (wSq (ws _ _)) (wMul hu (wm _ _)) w
theorem lpick_fun (c : Nat) (hc : c < 2) (s t : Nat × Nat) (w : World) : Calls Try.prog 45 #[.int .u64 (c : Int), lv s, lv t] w fun e w' => e = .returned (lv (if c = 0 then s else t)) ∧ Below w.heap.size w w' := by
  have pf : ∀ (a b : Nat) (w : World), Calls Try.prog 72 #[.int .u64 (c : Int), N (nm a), N (nm b)] w fun e w' => e = .returned (N (nm (if c = 0 then a else b))) ∧ Below w.heap.size w w' := fun a b w => by
    have := pick_fun (c : Int) (nm a) (nm b) ⟨by omega, by omega⟩ (nm_ok _) (nm_ok _) w
    unfold pick at this
    by_cases h : c = 0
    · rw [if_pos (by omega)] at this
      rw [if_pos h]
      exact this
    · rw [if_neg (by omega)] at this
      rw [if_neg h]
      exact this
  have := lpick_walk (c : Int) _ _ _ _ _ _ (pf s.1 t.1) (pf s.2 t.2) w
  by_cases h : c = 0
  · simp only [if_pos h] at this ⊢
    exact this
  · simp only [if_neg h] at this ⊢
    exact this
theorem tw_low (a b : Nat) : Cv.tw (a % F.p, b) = Cv.tw (a, b) := by
  simp only [Cv.tw, F.add_modl, F.sub_modl]
theorem jn_low (u : Nat) (q : Nat × Nat) (a b : Nat) : Cv.jn (u % F.p) q (a % F.p, b) = Cv.jn u q (a, b) := by
  simp only [Cv.jn, F.add_modl, F.sub_modl, F.mul_modl]
theorem jn_low0 (u : Nat) (q r : Nat × Nat) : Cv.jn (u % F.p) q r = Cv.jn u q r := by
  simp only [Cv.jn, F.mul_modl]
/-- Whether u is brought below P first is no matter. -/
theorem lst_low (u k : Nat) : ∀ i, Cv.lst (u % F.p) k (i + 1) = Cv.lst u k (i + 1)
  | 0 => by
    simp only [Cv.lst, tw_low, jn_low]
  | i + 1 => by
    have ih := lst_low u k i
    rw [Cv.lst, ih, Cv.lst.eq_def u k (i + 1 + 1)]
    simp only [jn_low0]
theorem lst_llt (u k : Nat) (hu : u < l256) : ∀ i, llt (Cv.lst u k i).1 ∧ llt (Cv.lst u k i).2
  | 0 => ⟨⟨(by decide : 1 < l256), (by decide : 0 < l256)⟩, hu, (by decide : 1 < l256)⟩
  | i + 1 => by
    rw [Cv.lst]
    split
    · exact ⟨tw_llt _, jn_llt _ _ _⟩
    · exact ⟨jn_llt _ _ _, tw_llt _⟩
theorem lLadC : LLadC := fun k u ok ou w => by
  have hu : u.nat < l256 := Nm.nat_lt ou
  have eu : u = nm u.nat := (Nm.eq_nm ou rfl)
  have key : Cv.lad k.nat u.nat = F.mul (Cv.lst u.nat k.nat 256).1.1 (F.inv (Cv.lst u.nat k.nat 256).1.2) := by
    unfold Cv.lad
    rw [lst_low u.nat k.nat 255]
  rw [key]
  refine lLad_walk k u _ (fun j qx qy rx ry => lV qx qy = lv (Cv.lst u.nat k.nat (256 - j)).1 ∧ lV rx ry = lv (Cv.lst u.nat k.nat (256 - j)).2 ∧ qx = nm (Cv.lst u.nat k.nat (256 - j)).1.1 ∧ qy = nm (Cv.lst u.nat k.nat (256 - j)).1.2) ?_ ?_ ?_ w
  · refine ⟨?_, ?_, ?_, ?_⟩
    · rw [nI_nm, nO_nm]; rfl
    · show lV u nI = lv (u.nat, 1)
      rw [nI_nm]
      show lV u (nm 1) = lV (nm u.nat) (nm 1)
      rw [← eu]
    · rw [nI_nm]; rfl
    · rw [nO_nm]; rfl
  · rintro j qx qy rx ry hj ⟨e1, e2, -, -⟩
    obtain ⟨l1, l2⟩ := lst_llt u.nat k.nat hu (256 - (j + 1))
    have hb := bit_fun k ok j hj
    rw [show k.val / 2 ^ j % 2 = ((k.nat / 2 ^ j % 2 : Nat) : Int) by rw [← Nm.nat_cast ok]; norm_cast] at hb
    have hc : k.nat / 2 ^ j % 2 < 2 := Nat.mod_lt _ (by decide)
    have P1 := lpick_fun _ hc (Cv.lst u.nat k.nat (256 - (j + 1))).1 (Cv.lst u.nat k.nat (256 - (j + 1))).2
    have hl : llt (if k.nat / 2 ^ j % 2 = 0 then (Cv.lst u.nat k.nat (256 - (j + 1))).1 else (Cv.lst u.nat k.nat (256 - (j + 1))).2) := by split <;> assumption
    have P2 := ltw_fun hl
    have P3 := ljn_fun hu l1 l2
    have P4 := lpick_fun _ hc (Cv.tw (if k.nat / 2 ^ j % 2 = 0 then (Cv.lst u.nat k.nat (256 - (j + 1))).1 else (Cv.lst u.nat k.nat (256 - (j + 1))).2)) (Cv.jn u.nat (Cv.lst u.nat k.nat (256 - (j + 1))).1 (Cv.lst u.nat k.nat (256 - (j + 1))).2)
    have P5 := lpick_fun _ hc (Cv.jn u.nat (Cv.lst u.nat k.nat (256 - (j + 1))).1 (Cv.lst u.nat k.nat (256 - (j + 1))).2) (Cv.tw (if k.nat / 2 ^ j % 2 = 0 then (Cv.lst u.nat k.nat (256 - (j + 1))).1 else (Cv.lst u.nat k.nat (256 - (j + 1))).2))
    rw [← e1, ← e2] at P1
    rw [← e1, ← e2, ← eu] at P3
    have st : Cv.lst u.nat k.nat (256 - j) = if k.nat / 2 ^ j % 2 = 0 then (Cv.tw (Cv.lst u.nat k.nat (256 - (j + 1))).1, Cv.jn u.nat (Cv.lst u.nat k.nat (256 - (j + 1))).1 (Cv.lst u.nat k.nat (256 - (j + 1))).2) else (Cv.jn u.nat (Cv.lst u.nat k.nat (256 - (j + 1))).1 (Cv.lst u.nat k.nat (256 - (j + 1))).2, Cv.tw (Cv.lst u.nat k.nat (256 - (j + 1))).2) := by
      conv => lhs; rw [show 256 - j = 256 - (j + 1) + 1 by omega, Cv.lst]
      rw [show 255 - (256 - (j + 1)) = j by omega]
    refine ⟨_, _, _, _, _, _, _, _, _, _, _, hb, P1, P2, P3, P4, P5, ?_⟩
    show lV _ _ = lv (Cv.lst u.nat k.nat (256 - j)).1 ∧ lV _ _ = lv (Cv.lst u.nat k.nat (256 - j)).2 ∧ _ = nm (Cv.lst u.nat k.nat (256 - j)).1.1 ∧ _ = nm (Cv.lst u.nat k.nat (256 - j)).1.2
    rw [st]
    by_cases h : k.nat / 2 ^ j % 2 = 0
    · simp only [if_pos h]
      exact ⟨trivial, trivial, trivial, trivial⟩
    · simp only [if_neg h]
      exact ⟨trivial, trivial, trivial, trivial⟩
  · rintro qx qy rx ry ⟨-, -, e1, e2⟩
    rw [Nat.sub_zero] at e1 e2
    obtain ⟨l1, -⟩ := lst_llt u.nat k.nat hu 256
    subst e1 e2
    exact ⟨_, wInv l1.2, wMul l1.1 (Nat.lt_trans (F.inv_lt _) F.p_lt)⟩
theorem lOfC : LOfC := fun P hP w => by
  have h1 : (1 : Nat) < l256 := by decide
  have hy : P.2 < l256 := Nat.lt_trans hP.2.1 F.p_lt
  have S1 := wSub h1 hy
  have A1 := wAdd h1 hy
  rw [← nI_nm] at S1 A1
  exact lOf_yes _ _ _ _ _ _ (cOnC.1 P hP) S1 (wInv (ws _ _)) A1 (wMul (wa _ _) (Nat.lt_trans (F.inv_lt _) F.p_lt)) w
end Go.Proofs.Ytpnfopakkaoibaa
