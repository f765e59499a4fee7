/- What the listed variable gives: the table of math/bits lies in its block. -/
import Derived.Test.YtgdekdmdidahdaaDoorTz
import Derived.Test.YtgdekdmdidahdaaDoorArr
import Derived.Test.YtgdekdmdidahdaaDoorOwn
import Derived.Test.YtgdekdmdidahdaaDoorTie
import Derived.ProofKit
import Derived.LaidMore
import Derived.OpenShut
import Derived.Stop.Joined
import Derived.SevenTiedAt
namespace Go.Proofs.YtgdekdmdidahdaaDoor
open Go.ChangeShapes Go.WideShapes Go.ChangeAt Go.WideMaps Go.WideElems Go.RowKit

theorem gTab : Tryd.prog.globalNamed "math/bits.deBruijn64tab" = some 0 := by kernel_rfl
theorem tTab : (Tryd.prog.globals[0]?).map (·.type) = some 62 := by kernel_rfl
theorem door_met (os : Os) (args : Array Value) : laidMetH Tryd.prog [("math/bits.deBruijn64tab", Rows.laid_math_bits_deBruijn64tab)] ((World.doorLaid Tryd.prog 14 os).forCall (fun _ _ => 0) ⟨#[], args, []⟩).memory :=
  laidMetH_of_parts3 (fuel := 8) (laidMet_of_run' 8 (by kernel_rfl) (by kernel_rfl)) (by kernel_rfl) (by kernel_rfl)
def litInt {H : Type} : DataW H → Int
  | .lit (.int _ i) => i
  | _ => 0
theorem litInt_map {H : Type} (xs : List Int) : (xs.map fun i => (DataW.lit (H := H) (.int .u8 i))).map litInt = xs := by
  rw [List.map_map]
  conv => rhs; rw [← List.map_id xs]
  rfl
theorem tab_of_laid {W : World} (h : laidMetH Tryd.prog [("math/bits.deBruijn64tab", Rows.laid_math_bits_deBruijn64tab)] W) : Tab W := by
  rw [MakeChecks.laidMetH_plain _ _ _ (by kernel_rfl)] at h
  obtain ⟨ps, ⟨g0, t0, cs0, f0, p0, q0, hg0, ht0, hv0, hd0, _, _⟩, _, _⟩ := h
  obtain rfl := Option.some.inj (gTab.symm.trans hg0)
  obtain rfl := Option.some.inj (tTab.symm.trans ht0)
  obtain ⟨xs, hl, hcs, hx, _⟩ := trod_arr Tryd.underlying62 Tryd.underlying5 Tryd.cellsU8 (by kernel_rfl) hd0
  simp only [Prod.mk.injEq] at hx
  have e : xs = Lib.deBruijn64tab.map (fun n : Nat => (n : Int)) := by
    have := congrArg (fun d : DataW _ => match d with | .agg l => l.map litInt | _ => []) hx.1
    simp only [litInt_map] at this
    exact this.symm
  intro j hj
  have c := World.var?_cell hg0 hv0 j
  obtain ⟨l⟩ := cs0
  simp only at hcs
  rw [c, hcs, e]
  simp [hj]
end Go.Proofs.YtgdekdmdidahdaaDoor
