/- ScalarTells, out of what package scalar keeps, and the document's side. -/
import Derived.Test.YtjcnfffmciahiaaDoorSTGood
import Derived.Test.YtjcnfffmciahiaaDoorSTBad
namespace Go.Proofs.YtjcnfffmciahiaaDoor
open Go.RowKit
set_option linter.unusedSimpArgs false
theorem low_is (X : Nat) (hX : X < 65536 ^ 64) : LowIs X Cv.ord (nm (X % Cv.ord)) := fun u k g w su c0 sk => ownLow_fun X Cv.ord hX ord_pos ord_lt u k g w su c0 sk
theorem toNum_ord {X : Nat} (hX : X < 2 ^ 256) (u : Value) (w : World) (su : Sl w u (P.dg X)) : Calls Tryd.prog 7 #[u] w fun e w' => e = .returned (N (nm X)) ∧ Below w.heap.size w w' := toNum_of X hX u w su
theorem minus_e (X Y : Nat) (hX : X < 65536 ^ 64) (le : Y ≤ X) (u v : Value) (w : World) (su : Sl w u (P.dg X)) (sv : Sl w v (P.dg Y)) :
    Calls Tryd.prog 18 #[u, v] w fun e w' => (∃ v', e = .returned v' ∧ Sl w' v' (P.dg (X - Y))) ∧ Below w.heap.size w w' := by
  have := dminus_fun u v _ _ (P.dg_Dg X) (P.dg_Dg Y) (Nat.lt_trans (dshort hX) (by decide)) (by rw [P.dv_dg, P.dv_dg]; exact le) w su sv
  rwa [P.dv_dg, P.dv_dg] at this
theorem dg_two : P.dg 2 = [2] := by rw [P.dg_pos (by decide), show 2 / 65536 = 0 from rfl, P.dg_zero]
theorem scalarTells_of (a b l h : Nm) (oa : a.ok) (ob : b.ok) (ol : l.ok) (oh : h.ok) (lb : Nat) (hlb : lb < 256) (v : Value) (bs : List Nat) (lo : ∀ x ∈ bs, x < 256) (zb : bs.length ≤ 140737488351232) (w : World) (hv : By w v bs) (hK : KTab w) (hR : RTab w) :
    Calls Tryd.prog 3 #[N a, N b, Wv l h, .int .u8 (lb : Int), v] w fun e w' => e = .returned (.bool true) ∧ Below w.heap.size w w' := by
  have up : (2 : Nat) ^ 256 < 65536 ^ 64 := by decide
  have la : a.nat < 65536 ^ 64 := Nat.lt_trans (Nm.nat_lt oa) up
  have lb_ : b.nat < 65536 ^ 64 := Nat.lt_trans (Nm.nat_lt ob) up
  have lO : Cv.ord < 65536 ^ 64 := by decide
  have q2 : (2 : Nat) ^ 512 = 2 ^ 256 * 2 ^ 256 := pow512'
  have q3 : (2 : Nat) ^ 512 < 65536 ^ 64 := by rw [q2]; decide
  have q4 : (2 : Nat) ^ 256 + 2 ^ 256 < 65536 ^ 64 := by decide
  have hT : V l h = l.nat + 2 ^ 256 * h.nat := V_nat ol oh
  have lT : V l h < 65536 ^ 64 := by
    refine Nat.lt_trans ?_ q3
    rw [hT, q2]
    have h1 := Nm.nat_lt ol
    have h2 := Nat.mul_le_mul_left (2 ^ 256) (show h.nat + 1 ≤ 2 ^ 256 from Nm.nat_lt oh)
    rw [Nat.mul_add, Nat.mul_one] at h2
    omega
  have lC : a.nat + b.nat < 65536 ^ 64 := by have := Nm.nat_lt oa; have := Nm.nat_lt ob; omega
  have lH : a.nat * b.nat < 65536 ^ 64 := Nat.lt_trans (mul_lt512 oa ob) q3
  have hE := Nat.mod_lt a.nat ord_pos
  have lF : Cv.ord - a.nat % Cv.ord < 65536 ^ 64 := Nat.lt_of_le_of_lt (Nat.sub_le _ _) lO
  have SR := sRed_fun l h ol oh
  rw [← hT] at SR
  have lI : a.nat ^ (Cv.ord - 2) % Cv.ord < 2 ^ 256 := Nat.lt_trans (Nat.mod_lt _ ord_pos) ord_lt
  have lJ : S.le (S.dig lb bs) % Cv.ord < 2 ^ 256 := Nat.lt_trans (Nat.mod_lt _ ord_pos) ord_lt
  have M2 : ∀ u v w, Sl w u (P.dg Cv.ord) → Sl w v [2] → Calls Tryd.prog 18 #[u, v] w fun e w' => (∃ v', e = .returned v' ∧ Sl w' v' (P.dg (Cv.ord - 2))) ∧ Below w.heap.size w w' := fun u v w su sv => minus_e Cv.ord 2 lO (by decide) u v w su (by rw [dg_two]; exact sv)
  have PW := power_fun a.nat (Cv.ord - 2) Cv.ord la (by decide) ord_pos ord_lt
  have DG := fun w hv hK => sDig_fun lb hlb bs lo zb v w hv hK
  have RG := fun w hR => rDig_fun lb hlb bs lo zb w hR
  have hv' := hv
  obtain ⟨ad, c, rfl, _⟩ := hv
  by_cases hn : bs.length ≤ 64
  · have lB : S.le bs < 65536 ^ 64 := Nat.lt_of_lt_of_le (S.le_lt bs lo) (Nat.le_trans (Nat.pow_le_pow_right (by decide) hn) (by decide))
    exact scTells_good a b l h _ _ _ _ _ _ _ _ _ lb bs.length c ad bs _ a.nat b.nat Cv.ord (V l h) (a.nat + b.nat) (a.nat % Cv.ord) (Cv.ord - a.nat % Cv.ord) (a.nat * b.nat) (Cv.ord - 2) _ _
      sLC (sLowC a oa) SR (sAddC a b oa ob) (sNegC a oa) (sMulC a b oa ob) (sInvC a oa) prime_fun (ofNum_fun a oa) (ofNum_fun b ob) (ofWide_fun l h ol oh) (fun u w su => toNum_ord ord_lt u w su) (fun u w su => toNum_ord lI u w su) (fun u w su => toNum_ord lJ u w su)
      (plus_n _ _ la lb_) (rest_n _ _ la ord_pos lO) (minus_e _ _ lO (Nat.le_of_lt hE)) (times_n _ _ la lb_) M2 PW DG RG (low_is _ la) (low_is _ lT) (low_is _ lC) (low_is _ lF) (low_is _ lH)
      (fun w hv => sOf_fun bs hn lo _ w hv) (low_is _ lB) lo rfl hn w hv' hK hR rfl
  · exact scTells_bad a b l h _ _ _ _ _ _ _ _ lb bs.length c ad bs _ a.nat b.nat Cv.ord (V l h) (a.nat + b.nat) (a.nat % Cv.ord) (Cv.ord - a.nat % Cv.ord) (a.nat * b.nat) (Cv.ord - 2) _ _
      sLC (sLowC a oa) SR (sAddC a b oa ob) (sNegC a oa) (sMulC a b oa ob) (sInvC a oa) prime_fun (ofNum_fun a oa) (ofNum_fun b ob) (ofWide_fun l h ol oh) (fun u w su => toNum_ord ord_lt u w su) (fun u w su => toNum_ord lI u w su) (fun u w su => toNum_ord lJ u w su)
      (plus_n _ _ la lb_) (rest_n _ _ la ord_pos lO) (minus_e _ _ lO (Nat.le_of_lt hE)) (times_n _ _ la lb_) M2 PW DG RG (low_is _ la) (low_is _ lT) (low_is _ lC) (low_is _ lF) (low_is _ lH)
      (fun w hv => sOf_bad bs (by omega) _ w hv) (by omega) w hv' hK hR rfl
end Go.Proofs.YtjcnfffmciahiaaDoor
