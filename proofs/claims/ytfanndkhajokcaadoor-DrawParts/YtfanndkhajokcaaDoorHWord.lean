/- The contract of hash.word: four bytes, the greatest first. -/
import Derived.Test.YtfanndkhajokcaaDoorHMath
import Derived.Test.YtfanndkhajokcaaDoorHB
import Derived.Test.YtfanndkhajokcaaDoorUp
namespace Go.Proofs.YtfanndkhajokcaaDoor
open Go.RowKit
set_option linter.unusedSimpArgs false
theorem u_of (n : Nat) (h : n < 4294967296) : IntKind.u32.wrap (n : Int) = U (BitVec.ofNat 32 n) := by
  rw [wrap32 n h]
  simp only [U, BitVec.toNat_ofNat]
  omega
theorem or_add {a b k : Nat} (hb : b < 2 ^ k) : a * 2 ^ k ||| b = a * 2 ^ k + b := by
  have := Nat.shiftLeft_add_eq_or_of_lt hb a
  rw [Nat.shiftLeft_eq] at this
  omega
theorem wd4_or (a b c d : Nat) (ha : a < 256) (hb : b < 256) (hc : c < 256) (hd : d < 256) :
    wor (wor (wor (BitVec.ofNat 32 (a * 16777216)) (BitVec.ofNat 32 (b * 65536))) (BitVec.ofNat 32 (c * 256))) (BitVec.ofNat 32 d) = wd4 a b c d := by
  apply BitVec.eq_of_toNat_eq
  simp only [wor, wd4, BitVec.toNat_or, BitVec.toNat_ofNat]
  rw [Nat.mod_eq_of_lt (show a * 16777216 < 2 ^ 32 by omega), Nat.mod_eq_of_lt (show b * 65536 < 2 ^ 32 by omega), Nat.mod_eq_of_lt (show c * 256 < 2 ^ 32 by omega), Nat.mod_eq_of_lt (show d < 2 ^ 32 by omega), Nat.mod_eq_of_lt (by omega)]
  have e1 : a * 16777216 ||| b * 65536 = a * 16777216 + b * 65536 := or_add (k := 24) (by omega)
  have e2 : (a * 16777216 + b * 65536) ||| c * 256 = a * 16777216 + b * 65536 + c * 256 := by
    have := or_add (a := a * 256 + b) (b := c * 256) (k := 16) (by omega)
    rw [show (a * 256 + b) * 2 ^ 16 = a * 16777216 + b * 65536 by omega] at this
    exact this
  have e3 : (a * 16777216 + b * 65536 + c * 256) ||| d = a * 16777216 + b * 65536 + c * 256 + d := by
    have := or_add (a := a * 65536 + b * 256 + c) (b := d) (k := 8) (by omega)
    rw [show (a * 65536 + b * 256 + c) * 2 ^ 8 = a * 16777216 + b * 65536 + c * 256 by omega] at this
    exact this
  rw [e1, e2, e3]
theorem wd4_key (a b c d : Nat) (ha : a < 256) (hb : b < 256) (hc : c < 256) (hd : d < 256) :
    bits .or .u32 (bits .or .u32 (bits .or .u32 ((a : Int) * 16777216) ((b : Int) * 65536)) ((c : Int) * 256)) (d : Int) = U (wd4 a b c d) := by
  have e := fun (n : Nat) (h : n < 4294967296) => (by simp only [U, BitVec.toNat_ofNat]; omega : (n : Int) = U (BitVec.ofNat 32 n))
  have ea := e (a * 16777216) (by omega)
  have eb := e (b * 65536) (by omega)
  have ec := e (c * 256) (by omega)
  have ed := e d (by omega)
  simp only [Int.natCast_mul, Int.cast_ofNat_Int] at ea eb ec
  rw [ea, eb, ec, ed, u_or, u_or, u_or, wd4_or a b c d ha hb hc hd]
set_option maxHeartbeats 1000000 in
theorem word_fun (b o n c x0 x1 x2 x3 : Nat) (h0 : x0 < 256) (h1 : x1 < 256) (h2 : x2 < 256) (h3 : x3 < 256) (hn : 4 ≤ n) (w : World)
    (c0 : w.cell? ⟨b, o, none⟩ = some (b8 x0)) (c1 : w.cell? ⟨b, o + 1, none⟩ = some (b8 x1)) (c2 : w.cell? ⟨b, o + 2, none⟩ = some (b8 x2)) (c3 : w.cell? ⟨b, o + 3, none⟩ = some (b8 x3)) :
    Calls Tryd.prog 65 #[.slice (some ⟨b, o, none⟩) n c] w fun e w' => e = .returned (uw (wd4 x0 x1 x2 x3)) ∧ Below w.heap.size w w' := by
  have n0 : (0 : Int) < (n : Int) := by omega
  have n1 : (1 : Int) < (n : Int) := by omega
  have n2 : (2 : Int) < (n : Int) := by omega
  have n3 : (3 : Int) < (n : Int) := by omega
  go_enter Tryd.func65, Tryd.ntmps65
  go_wp2_with fail
  go_quiet (fail)
  go_wp2_with fail
  rw [wd4_key x0 x1 x2 x3 h0 h1 h2 h3]
  go_ret
  exact ⟨rfl, below_drewN (Below.refl _ _)⟩
end Go.Proofs.YtfanndkhajokcaaDoor
