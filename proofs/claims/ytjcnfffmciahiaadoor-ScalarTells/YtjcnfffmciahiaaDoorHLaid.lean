/- What the listed variables give: the tables of hash and of sealringref lie in their blocks. -/
import Derived.Test.YtjcnfffmciahiaaDoorGrp33
import Derived.Test.YtjcnfffmciahiaaDoorGrp40
import Derived.Test.YtjcnfffmciahiaaDoorCards
import Derived.Test.YtjcnfffmciahiaaDoorTie
import Derived.ProofKit
import Derived.LaidMore
import Derived.OpenShut
import Derived.Deep.DeepHandedRow
import Derived.Lib.LaidTab
namespace Go.Proofs.YtjcnfffmciahiaaDoor
open Go.ChangeShapes Go.WideShapes Go.ChangeAt Go.WideMaps Go.WideElems Go.RowKit
theorem gK : Tryd.prog.globalNamed "sealring/hash.rounds" = some 0 := by kernel_rfl
theorem tK : (Tryd.prog.globals[0]?).map (·.type) = some 88 := by kernel_rfl
theorem gR : Tryd.prog.globalNamed "sealring/sealringref.roundNumbers" = some 1 := by kernel_rfl
theorem tR : (Tryd.prog.globals[1]?).map (·.type) = some 88 := by kernel_rfl
theorem cellsU32 : Tryd.prog.cellsOf 72 = 1 := by kernel_rfl
theorem cellsW64 : Tryd.prog.cellsOf 88 = 64 := by kernel_rfl
theorem uU32 : Tryd.prog.underlying 72 = some (.int .u32) := by kernel_rfl
theorem laidK : (Rows.laid_sealring_hash_rounds : DataW Unit) = Lib.tabData .u32 (Kt.map U) := rfl
theorem laidR : (Rows.laid_sealring_sealringref_roundNumbers : DataW Unit) = Lib.tabData .u32 (Kt.map U) := rfl
/-- The table of sealringref lies where it was laid. -/
def RTab (w : World) : Prop := ∀ j, j < 64 → w.cell? ⟨1, j, none⟩ = some (uw (Kt.getD j 0))
theorem RTab.up {W w1 : World} (h : RTab W) {B : Nat} (hb : Below B W w1) (hB : 1 < B) : RTab w1 := fun j hj => (hb.cell (p := ⟨1, j, none⟩) hB).trans (h j hj)
theorem RTab.pos {W : World} (h : RTab W) : 1 < W.heap.size := lt_of_cellB (h 0 (by decide))
theorem getD_U (j : Nat) (hj : j < 64) : (Kt.map U).getD j 0 = U (Kt.getD j 0) := by
  have hl : j < Kt.length := hj
  simp [List.getD_eq_getElem?_getD, List.getElem?_eq_getElem hl]
theorem ktab_head {W : World} {rest : List (String × DataW Unit)} (h : laidMet Tryd.prog (("sealring/hash.rounds", Rows.laid_sealring_hash_rounds) :: rest) W) : KTab W := by
  rw [laidK] at h
  intro j hj
  have := (Lib.tabIs_of_head gK tK u_w64 uU32 cellsU32 cellsW64 h).cell gK j (by simpa [Kt] using hj)
  rw [this, getD_U j hj]
theorem ktab_one {W : World} (h : laidMetH Tryd.prog [("sealring/hash.rounds", Rows.laid_sealring_hash_rounds)] W) : KTab W := ktab_head (rest := []) h
theorem ktab_two {W : World} (h : laidMetH Tryd.prog [("sealring/hash.rounds", Rows.laid_sealring_hash_rounds), ("sealring/sealringref.roundNumbers", Rows.laid_sealring_sealringref_roundNumbers)] W) : KTab W := ktab_head (rest := [("sealring/sealringref.roundNumbers", Rows.laid_sealring_sealringref_roundNumbers)]) h
theorem rtab_two {W : World} (h : laidMetH Tryd.prog [("sealring/hash.rounds", Rows.laid_sealring_hash_rounds), ("sealring/sealringref.roundNumbers", Rows.laid_sealring_sealringref_roundNumbers)] W) : RTab W := by
  have h' : laidMet Tryd.prog [("sealring/hash.rounds", Rows.laid_sealring_hash_rounds), ("sealring/sealringref.roundNumbers", Rows.laid_sealring_sealringref_roundNumbers)] W := h
  obtain ⟨ps, ⟨_, _, _, _, p, q, _, _, _, _, ht, rfl⟩, hn, hp⟩ := h'
  have h2 : laidMet Tryd.prog [("sealring/sealringref.roundNumbers", Rows.laid_sealring_sealringref_roundNumbers)] W := ⟨q, ht, (List.nodup_append.1 hn).2.1, fun b o hm => hp b o (List.mem_append.2 (Or.inr hm))⟩
  rw [laidR] at h2
  intro j hj
  have := (Lib.tabIs_of_head gR tR u_w64 uU32 cellsU32 cellsW64 h2).cell gR j (by simpa [Kt] using hj)
  rw [this, getD_U j hj]
theorem Tryd.bytesU8 : Tryd.prog.bytesOf 5 = 1 := by kernel_rfl
theorem uU64 : Tryd.prog.underlying 22 = some (.int .u64) := by kernel_rfl
theorem cellsD32 : Tryd.prog.cellsOf 51 = 32 := by kernel_rfl
open Go.Deep in
theorem len_of_trod {H : Type} {enc : TypeId × Value → H} {w : World} {base : Nat} {spare : Nat → Bool} {held : Bool} {fuel n c : Nat} {a : Option Addr} {x : DataW H × List MemPlace} (h : DataW.trod enc Tryd.prog w base spare held fuel 27 [.slice a n c] = some x) : (x.1 = .nil ∧ n = 0) ∨ ∃ es sp, x.1 = .slice es sp ∧ es.length = n := by
  rcases open_ints Tryd.uBytes Tryd.uU8 Tryd.cellsU8 h with ⟨hcs, hx⟩ | ⟨a', len, cap, zs, hcs, _, hl, hm, hz, hx, hcell, hwz⟩
  · left
    simp only [List.cons.injEq, Value.slice.injEq, and_true] at hcs
    exact ⟨by rw [hx], hcs.2.1⟩
  · right
    simp only [List.cons.injEq, Value.slice.injEq, and_true] at hcs
    obtain ⟨_, rfl, rfl⟩ := hcs
    refine ⟨_, _, by rw [hx], ?_⟩
    simp only [lits, List.length_map, List.length_take, hz]
    split <;> omega
theorem bulk_one {H : Type} (d : DataW H) : 1 ≤ Rows.uptoBulk d := by
  cases d with
  | lit l => cases l <;> simp [Rows.uptoBulk]
  | nil => simp [Rows.uptoBulk]
  | ptr d => simp [Rows.uptoBulk]
  | slice elems spare => simp [Rows.uptoBulk]
  | agg parts => simp [Rows.uptoBulk]
  | iface t d => simp [Rows.uptoBulk]
  | map entries => simp [Rows.uptoBulk]
  | held h => simp [Rows.uptoBulk]
theorem bulk_all {H : Type} (l : List (DataW H)) : l.length ≤ Rows.uptoBulkAll l := by
  induction l with
  | nil => simp [Rows.uptoBulkAll]
  | cons x r ih => have := bulk_one x; simp only [Rows.uptoBulkAll, List.length_cons]; omega
theorem bulk_le {H : Type} (es sp : List (DataW H)) : es.length ≤ Rows.uptoBulk (.slice es sp) := by
  have h1 := bulk_all es
  simp only [Rows.uptoBulk]
  omega
end Go.Proofs.YtjcnfffmciahiaaDoor
