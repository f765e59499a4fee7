/- Texts that were joined: CrvB, CvPk, CurvePk. -/
import Derived.Test.YtpnfopakkaoibaaQUpV3ToKnL
import Derived.Test.YtpnfopakkaoibaaQOctToOfB
import Derived.Test.YtpnfopakkaoibaaQMulWToAdN
import Derived.Test.YtpnfopakkaoibaaQCAssToLMath
import Derived.Test.YtpnfopakkaoibaaQCvFr
import Derived.Test.YtpnfopakkaoibaaQShlToBit
/- Points packed: what package curve must keep of Pack and Unpack; thirty-two bytes and their number. -/
namespace Go.Proofs.Ytpnfopakkaoibaa
open Go.RowKit
set_option linter.unusedSimpArgs false
/-- The highest bit turned. -/
theorem turn_byte {n : Nat} (hn : n < 2 ^ 256) : bits .xor .u8 ((n / 256 ^ 31 % 256 : Nat) : Int) 128 = ((Cv.turn n / 256 ^ 31 % 256 : Nat) : Int) := by
  have p31 : (256 : Nat) ^ 31 = 452312848583266388373324160190187140051835877600158453279131187530910662656 := by decide
  have p255 : (2 : Nat) ^ 255 = 57896044618658097711785492504343953926634992332820282019728792003956564819968 := by decide
  have p256 : (2 : Nat) ^ 256 = 115792089237316195423570985008687907853269984665640564039457584007913129639936 := by decide
  have tab : ∀ x : Fin 256, bits .xor .u8 ((x.val : Nat) : Int) 128 = ((if x.val < 128 then x.val + 128 else x.val - 128 : Nat) : Int) := by decide +kernel
  have h := tab ⟨n / 256 ^ 31 % 256, Nat.mod_lt _ (by decide)⟩
  rw [h]
  congr 1
  simp only []
  unfold Cv.turn
  rw [p31, p255]
  rw [p256] at hn
  split <;> split <;> omega
theorem turn_lt {n : Nat} (hn : n < 2 ^ 256) : Cv.turn n < 2 ^ 256 := by
  have p255 : (2 : Nat) ^ 255 = 57896044618658097711785492504343953926634992332820282019728792003956564819968 := by decide
  have p256 : (2 : Nat) ^ 256 = 115792089237316195423570985008687907853269984665640564039457584007913129639936 := by decide
  unfold Cv.turn
  rw [p255]
  rw [p256] at *
  split <;> omega
theorem turn_row {n : Nat} (hn : n < 2 ^ 256) : (bR n).set 31 (.int .u8 ((Cv.turn n / 256 ^ 31 % 256 : Nat) : Int)) = bR (Cv.turn n) := by
  apply List.ext_getElem?
  intro i
  by_cases hi : i < 32
  · by_cases h31 : i = 31
    · subst h31
      rw [List.getElem?_set_self (by rw [bR_length]; decide)]
      simp [bR]
    · rw [List.getElem?_set_ne (Ne.symm h31)]
      have e : n / 256 ^ i % 256 = Cv.turn n / 256 ^ i % 256 := by
        have hs : (2 : Nat) ^ 255 = 256 ^ i * (256 * 2 ^ (247 - 8 * i)) := by
          rw [show (256 : Nat) = 2 ^ 8 from rfl, ← Nat.pow_mul, ← Nat.pow_add, ← Nat.pow_add]
          congr 1
          omega
        unfold Cv.turn
        split
        · rw [hs, Nat.add_mul_div_left _ _ (Nat.pow_pos (by decide)), Nat.add_mul_mod_self_left]
        · rename_i h1
          have hge : 2 ^ 255 ≤ n := by
            rcases Nat.lt_or_ge n (2 ^ 255) with h | h
            · rw [Nat.div_eq_of_lt h] at h1
              exact absurd rfl h1
            · exact h
          obtain ⟨m, rfl⟩ : ∃ m, n = m + 2 ^ 255 := ⟨n - 2 ^ 255, by omega⟩
          rw [Nat.add_sub_cancel, hs, Nat.add_mul_div_left _ _ (Nat.pow_pos (by decide)), Nat.add_mul_mod_self_left]
      unfold bR
      rw [List.getElem?_map, List.getElem?_map, List.getElem?_range hi]
      simp only [Option.map_some, e]
  · rw [List.getElem?_eq_none (by rw [List.length_set, bR_length]; omega), List.getElem?_eq_none (by rw [bR_length]; omega)]
end Go.Proofs.Ytpnfopakkaoibaa

/- Package curve, as it landed: evenX, packed, Pack. -/
namespace Go.Proofs.Ytpnfopakkaoibaa
open Go.RowKit
attribute [local go_sem] World.cell?_alloc_some cell_alloc2 cell_alloc3 cell_alloc4 frozen?_alloc_cells frozen_out
set_option linter.unusedSimpArgs false
/-- The bytes of a number, as limb.Bytes and limb.Of have them. -/
theorem results_row2 {P : Program} {fn : Func} {tmps : Array Value} {s s2 : Tmp} {t : TypeId} {b : Nat} {cs : List Value} {d : TypeDesc} {W : World} {v : Value} (hr : fn.results = #[.cell s t, .tmp s2]) (ht : tmps[s]?.getD undef = .pointer (some ⟨b, 0, none⟩)) (ht2 : tmps[s2]?.getD undef = v) (hc : W.rangeAt b 0 cs)
    (hu : P.underlying t = some d) (hd : d.isRow = true) (hi : (P.info? t).map (·.size) = some cs.length) : (results fn tmps).run P W = .ok (.tuple #[.agg cs.toArray, v]) W := by
  have h1 := run_loadVar_mid (P := P) W b 0 t cs d hc hu hd hi
  simp [results, hr, ht, ht2, asAddr, h1]
theorem wp_buildZ {t : TypeId} {cs : Array Value} {ops : Array Oper} {rest : List Oper} {o : Oper} {a : Act} {Q : Exit → Act → World → Prop} {w : World} (hgd : o.guard = none) (ho : o.op = .build t #[]) (hb : Try.prog.built t [] = some cs)
    (h : wpList Try.prog ops Q rest (a.put o.dst (.agg cs)) w) : wpList Try.prog ops Q (o :: rest) a w := by
  refine wpList_plain hgd fun K hK => ?_
  have e : (Instr.build t ((#[] : Array (Nat × Operand)).map fun x => (x.fst, a.eval x.snd))).run Try.prog w = .ok (.agg cs) w := run_build w t _ _ (by simpa using hb)
  unfold Oper.wp
  simp only [execOp, ho, Sem.run_bind, e, Result.andThen_ok, Sem.run_pure]
  exact hK _ _ h
theorem b32_zero : Try.prog.built 22 [] = some (bR 0).toArray := by kernel_rfl
theorem bR_get (n i : Nat) (h : i < 32) : (bR n)[i]? = some (.int .u8 ((n / 256 ^ i % 256 : Nat) : Int)) := by simp [bR, h]
end Go.Proofs.Ytpnfopakkaoibaa

/- Package curve, as it landed: Unpack. -/
namespace Go.Proofs.Ytpnfopakkaoibaa
open Go.RowKit
attribute [local go_sem] World.cell?_alloc_some cell_alloc2 cell_alloc3 cell_alloc4 frozen?_alloc_cells frozen_out
set_option linter.unusedSimpArgs false
set_option maxRecDepth 100000 in
theorem neB {m n : Nat} (hm : m < 2 ^ 256) (hn : n < 2 ^ 256) (w : World) : (binOp .neq 22 (bV m) (bV n)).run Try.prog w = .ok (.bool (!decide (m = n))) w := by
  have hg : ∀ n j, j < 32 → (bR n).toArray[j]? = some (.int .u8 ((n / 256 ^ j % 256 : Nat) : Int)) := fun n j hj => by simp [bR, hj]
  rw [run_neq_intsN (P := Try.prog) (t := 22) (e := 5) (n := 32) (k := .u8) Try.underlying22 rfl Try.underlying5 (by kernel_rfl) (by kernel_rfl) (fun j => ((m / 256 ^ j % 256 : Nat) : Int)) (fun j => ((n / 256 ^ j % 256 : Nat) : Int)) _ _ (hg m) (hg n)]
  congr 3
  by_cases h : m = n
  · subst h
    simp
  · rw [decide_eq_false h]
    refine Bool.eq_false_iff.2 fun e => h ?_
    have e2 : ∀ j, j < 32 → m / 256 ^ j % 256 = n / 256 ^ j % 256 := fun j hj => by
      have h1 := List.all_eq_true.1 e j (List.mem_range.2 hj)
      have h2 : ((m / 256 ^ j % 256 : Nat) : Int) = ((n / 256 ^ j % 256 : Nat) : Int) := eq_of_beq h1
      exact Int.ofNat.inj h2
    have h3 := byte_eq 32 e2
    rw [show (256 : Nat) ^ 32 = 2 ^ 256 by decide, Nat.mod_eq_of_lt hm, Nat.mod_eq_of_lt hn] at h3
    exact h3
/-- The point that the bytes could tell. -/
def may (n : Nat) : Cv.Pt := (if n / 2 ^ 255 % 2 = 0 then F.root (Cv.xx (n % 2 ^ 255 % F.p)) else F.sub 0 (F.root (Cv.xx (n % 2 ^ 255 % F.p))), n % 2 ^ 255 % F.p)
end Go.Proofs.Ytpnfopakkaoibaa
